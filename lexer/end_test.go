package lexer_test

import (
	"math"
	"strings"
	"testing"

	"sieve/api"
	"sieve/input"
	"sieve/lexer"
)

// over: a lexer that is over takes nothing any more, and says what it said.
func over(t *testing.T, l *lexer.Lexer, where api.Where, lost int) {
	t.Helper()
	for range 2 {
		for _, cells := range [][]api.Cell{nil, {{Rune: 'x'}}, input.Read([]byte("<title>x</title><b>"))} {
			if got, e := l.Feed(cells...); len(got) != 0 || e != api.ErrOver {
				t.Fatalf("Feed: %v, %d", got, e)
			}
		}
		if got, e := l.End(); len(got) != 0 || e != api.ErrOver {
			t.Fatalf("End: %v, %d", got, e)
		}
		if got, e := l.Stop(); len(got) != 0 || e != api.ErrOver {
			t.Fatalf("Stop: %v, %d", got, e)
		}
		if l.Where() != where || len(l.Lost()) != lost {
			t.Fatalf("%d, %v", l.Where(), l.Lost())
		}
	}
}

// P11.1: End and Stop behind any piece, twice, behind one another; Feed behind them.
func TestOver(t *testing.T) {
	s := "x&am<b title='0123456789'>y</b><!--c--><!doctype><title>&amp</title></><?z&#6<script>a</script"
	cells := input.Read([]byte(s))
	for n := range len(cells) + 1 {
		m := model(cells[:n], 16)
		for _, first := range []func(*lexer.Lexer) ([]api.Token, api.Errno){(*lexer.Lexer).End, (*lexer.Lexer).Stop} {
			l := made(t, 16)
			feed(t, l, cells[:n]...)
			if _, e := first(l); e != api.OK {
				t.Fatalf("behind %d: %d", n, e)
			}
			over(t, l, m.where, len(m.lost))
		}
	}
}

// P11.1: what End and Stop tell of what is begun.
func TestEndAndStop(t *testing.T) {
	for s, want := range map[string][2]string{
		"":                         {"", ""},
		"x":                        {"x", "x"},
		"x<":                       {"x<", "x"},
		"<":                        {"<", ""},
		"x</":                      {"x</", "x"},
		"</":                       {"</", ""},
		"x<<":                      {"x<<", "x<"},
		"x&":                       {"x&", "x"},
		"x&a":                      {"x&a", "x"},
		"x&amp":                    {"x&", "x"},
		"x&amp;":                   {"x&", "x&"},
		"x&ampy":                   {"x&y", "x&y"},
		"x&zz":                     {"x&zz", "x&zz"},
		"x&zzzzzzzzzzzzzzzzzzzzzz": {"x&zzzzzzzzzzzzzzzzzzzzzz", "x&zzzzzzzzzzzzzzzzzzzzzz"},
		"x&no":                     {"x&no", "x"},
		"x&noti":                   {"x¬i", "x"},
		"x&notit":                  {"x¬it", "x¬it"},
		"x&#":                      {"x&#", "x"},
		"x&#x":                     {"x&#x", "x"},
		"x&#xg":                    {"x&#xg", "x&#xg"},
		"x&#65":                    {"xA", "x"},
		"x&#65;":                   {"xA", "xA"},
		"x&#65 ":                   {"xA ", "xA "},
		"x&#65&":                   {"xA&", "xA"},
		"x&amp<":                   {"x&<", "x&"}, // the < can't go on with it
		"x&amp</":                  {"x&</", "x&"},
		"x&no<":                    {"x&no<", "x&no"},
		"x&<":                      {"x&<", "x&"},
		"x&#65<":                   {"xA<", "xA"},
		"x<!":                      {"|", ""},
		"x<!-":                     {"|-", ""},
		"x<!--":                    {"|", ""},
		"x<!--y--":                 {"|y", ""},
		"x<!doct":                  {"|doct", ""},
		"x<!doctype y":             {"|", ""},
		"x<?":                      {"|?", ""},
		"x</3":                     {"|3", ""},
		"x<b":                      {"", ""},
		"x</b":                     {"", ""},
		"x<b y='>":                 {"", ""},
		"x<b>":                     {"", ""},
		"x</>":                     {"", ""},
		"<title>x":                 {"x", "x"},
		"<title>x<":                {"x<", "x"},
		"<title>x</ti":             {"x</ti", "x"},
		"<title>x</title":          {"x</title", "x"},
		"<title>x</title ":         {"", ""},
		"<title>x</title>":         {"", ""},
		"<title>x</titlex":         {"x</titlex", "x</titlex"},
		"<title>x<b":               {"x<b", "x<b"},
		"<title>x&am":              {"x&am", "x"},
		"<title>x&amp":             {"x&", "x"},
		"<title>x&amp<":            {"x&<", "x&"},
		"<title>x&am</":            {"x&am</", "x&am"},
		"<title>x&#6</titl":        {"x\uFFFD</titl", "x\uFFFD"},
		"<title>x&zz":              {"x&zz", "x&zz"},
		"<style>x&amp":             {"x&amp", "x&amp"},
		"<style>x</style":          {"x</style", "x"},
		"<script>x<!--<script><":   {"x<!--<script><", "x<!--<script><"},
		"<script>x<!--<":           {"x<!--<", "x<!--"},
		"<plaintext>x<&am</p":      {"x<&am</p", "x<&am</p"},
	} {
		for i, last := range []func(*lexer.Lexer) ([]api.Token, api.Errno){(*lexer.Lexer).End, (*lexer.Lexer).Stop} {
			l := made(t, 100)
			feedText(t, l, s)
			left, e := last(l)
			got := ""
			for _, one := range left {
				if one.Kind != api.TokenText {
					got += "|"
				}
				got += one.Text
			}
			if e != api.OK || len(left) > 1 || got != want[i] {
				t.Errorf("%s, %d: %s, %d; want %s", s, i, lines(left), e, want[i])
			}
		}
	}
}

// P11.1: where the state is another one, at every moment.
func TestWhere(t *testing.T) {
	for _, name := range allRaw {
		for _, head := range []string{"<" + name + ">", "<" + strings.ToUpper(name) + " x='>'/>", "<" + name + " 0123456789abcdef>"} {
			l := made(t, 30-len(name))
			for i := range len(head) {
				if l.Where() != api.InData {
					t.Fatalf("ahead of %s: %d", head[i:], l.Where())
				}
				feedText(t, l, head[i:i+1])
			}
			where := whereOf(name)
			if l.Where() != where {
				t.Fatalf("%s: %d", head, l.Where())
			}
			tail := "x<b><!--&amp;--></" + name + "x></" + name + " 0123456789abcdef0123456789='>'>"
			for i := range len(tail) {
				if l.Where() != where {
					t.Fatalf("%s, ahead of %s: %d", head, tail[i:], l.Where())
				}
				feedText(t, l, tail[i:i+1])
			}
			if name != "plaintext" {
				where = api.InData
			}
			if l.Where() != where {
				t.Fatalf("%s: %d at its end", head, l.Where())
			}
		}
	}
	for _, s := range []string{"", "x", "<b>", "</title>", "<!--<title>-->", "<title", "<title x='>", "<br/>", "<titles>", "</>", "<!doctype>"} {
		l := made(t, 16)
		if feedText(t, l, s); l.Where() != api.InData {
			t.Errorf("%s: %d", s, l.Where())
		}
	}
}

// P11.1, R5: lexers that no call made.
func TestUnmade(t *testing.T) {
	for _, l := range []*lexer.Lexer{nil, {}, new(lexer.Lexer)} {
		for range 2 {
			for _, cells := range [][]api.Cell{nil, {{Rune: 'x'}}, input.Read([]byte("<title>x</title>"))} {
				if got, e := l.Feed(cells...); len(got) != 0 || e != api.ErrMade {
					t.Errorf("Feed: %v, %d", got, e)
				}
			}
			if got, e := l.End(); len(got) != 0 || e != api.ErrMade {
				t.Errorf("End: %v, %d", got, e)
			}
			if got, e := l.Stop(); len(got) != 0 || e != api.ErrMade {
				t.Errorf("Stop: %v, %d", got, e)
			}
			if len(l.Lost()) != 0 || l.Where() != api.InData {
				t.Errorf("%v, %d", l.Lost(), l.Where())
			}
		}
	}
}

// P11.2: Tokens tells what Lex does, left early and taken again, one in another.
func TestTokens(t *testing.T) {
	s := strings.Join(marks[:len(marks)-2], "x") + "<title>a&amp;b"
	for _, window := range []int{16, 20, 1000} {
		want := lex(t, s, window)
		all := lexer.Tokens([]byte(s), window)
		for n := range len(want) + 1 {
			var got []api.Token
			for one := range all {
				if len(got) == n {
					break
				}
				got = append(got, one)
			}
			agree(t, got, want[:n], "left early")
		}
		i := 0
		for one := range all {
			j := 0
			for other := range all {
				if !same([]api.Token{other}, want[j:j+1]) {
					t.Fatalf("the %d-th in the %d-th: %v", j, i, other)
				}
				j++
			}
			if !same([]api.Token{one}, want[i:i+1]) || j != len(want) {
				t.Fatalf("the %d-th: %v; %d in it", i, one, j)
			}
			i++
		}
	}
}

// R1: cells of any runes and places, in any order.
func TestAnyCells(t *testing.T) {
	some := []rune{'<', '/', '>', '&', '#', '!', '-', 'a', 0, -1, 0xD800, 0x110000, math.MaxInt32, math.MinInt32, '\r'}
	var grow func(cells []api.Cell, left int)
	grow = func(cells []api.Cell, left int) {
		m := model(cells, 16)
		l := made(t, 16)
		agree(t, feed(t, l, cells...), m.told, text(cells))
		end, _ := l.End()
		agree(t, end, m.left, text(cells))
		if left == 0 {
			return
		}
		for _, r := range some {
			grow(append(cells[:len(cells):len(cells)], api.Cell{Rune: r, At: api.Place{Byte: math.MaxInt, Line: -1, Col: math.MinInt + len(cells)}}), left-1)
		}
	}
	grow(nil, 3)
}
