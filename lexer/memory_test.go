package lexer_test

import (
	"runtime"
	"slices"
	"strings"
	"sync"
	"testing"
	"time"

	"sieve/api"
	"sieve/input"
	"sieve/lexer"
)

// R3: what is handed in is not changed, nor what lies behind its end, nor kept.
func TestArgumentsStay(t *testing.T) {
	s := "x&am\r<b title='0&lt;'>y</b><!--c--><title>&amp</ti&no</title>"
	cells := input.Read([]byte(s))
	cells[4].Rune = '\r'
	room := append(slices.Clone(cells), cells...)
	own := slices.Clone(room)
	l, other := made(t, 20), made(t, 20)
	var told, want []api.Token
	for at := 0; at < len(cells); at += 3 {
		to := min(at+3, len(cells))
		told = append(told, feed(t, l, room[at:to]...)...)
		if !slices.Equal(room, own) {
			t.Fatalf("changed by the cells from %d on", at)
		}
		for i := at; i < to; i++ {
			room[i], own[i] = api.Cell{Rune: '>'}, api.Cell{Rune: '>'}
		}
		want = append(want, feed(t, other, cells[at:to]...)...)
	}
	left, _ := l.End()
	rest, _ := other.End()
	agree(t, append(told, left...), append(want, rest...), "changed behind the call")
	bytes := []byte(s + "behind")
	list, _ := lexer.Lex(bytes[:len(s)], 20)
	all := lexer.Tokens(bytes[:len(s)], 20)
	if string(bytes) != s+"behind" {
		t.Error("bytes changed")
	}
	for i := range bytes {
		bytes[i] = '<'
	}
	agree(t, slices.Collect(all), list, "bytes changed behind the call")
}

// R3: answers share nothing with each other, nor with the lexer.
func TestAnswersApart(t *testing.T) {
	s := "<a x=1 y=2><b x=1 y=2>z<c 0123456789abcdef><d 0123456789abcdef>"
	l := made(t, 16)
	told := feedText(t, l, s)
	lost := l.Lost()
	want := lex(t, s, 16)
	for i := range told {
		told[i].Attrs = append(told[i].Attrs, api.Attr{Name: "z"})
		for j := range told[i].Attrs {
			told[i].Attrs[j] = api.Attr{Name: "changed"}
		}
	}
	if told[1].Attrs[0].Name != "changed" || lost[1].Name != "d" {
		t.Fatalf("%v, %v", told, lost)
	}
	_ = append(lost[:1], api.Finding{Name: "changed"})
	lost[0].Name = "changed"
	if got := l.Lost(); len(got) != 2 || got[0].Name != "c" || got[1].Name != "d" {
		t.Errorf("%v", got)
	}
	agree(t, lex(t, s, 16), want, "behind the change")
	before := l.Lost()
	_ = append(before, api.Finding{Name: "changed"})
	feedText(t, l, "<e 0123456789abcdef>")
	if got := l.Lost(); len(got) != 3 || got[2].Name != "e" || len(before) != 2 {
		t.Errorf("%v, %v", got, before)
	}
}

// R3: what was told stays, whatever is fed later.
func TestToldStays(t *testing.T) {
	l := made(t, 16)
	var told []api.Token
	var want []string
	for i := range 300 {
		text := strings.Repeat(string(rune('a'+i%26)), 1+i%15)
		told, want = append(told, feedText(t, l, text+"<b>")...), append(want, text, "")
	}
	for i, one := range told {
		if one.Text != want[i] {
			t.Fatalf("the %d-th: %v; want %q", i, one, want[i])
		}
	}
}

// R4: two lexers know nothing of each other.
func TestApart(t *testing.T) {
	inputs := []string{"x<title>&amp;a</title>&lt;", "<!--y--><script>&am</script>z", "<b x='1'>&notit;0123456789abcdef"}
	ls, told := make([]*lexer.Lexer, len(inputs)), make([][]api.Token, len(inputs))
	for i := range ls {
		ls[i] = made(t, 16)
	}
	for at := range 40 {
		for i, s := range inputs {
			if at < len(s) {
				told[i] = append(told[i], feed(t, ls[i], input.Read([]byte(s))[at])...)
			}
		}
	}
	for i, s := range inputs {
		left, _ := ls[i].End()
		agree(t, append(told[i], left...), lex(t, s, 16), s)
	}
}

// R4: the same answers by many goroutines at once.
func TestTogether(t *testing.T) {
	s := strings.Join(marks, "")
	want := lex(t, s, 20)
	all := lexer.Tokens([]byte(s), 20)
	var group sync.WaitGroup
	for range 16 {
		group.Go(func() {
			for range 5 {
				if got, e := lexer.Lex([]byte(s), 20); e != api.OK || !same(got, want) || !same(slices.Collect(all), want) {
					t.Errorf("%v, %d", got, e)
				}
			}
		})
	}
	group.Wait()
}

// R1: many runes of everything that may go on without an end, within a time that says that each of them takes a few steps.
func TestLong(t *testing.T) {
	const many = 1 << 18
	long := func(s string) string { return strings.Repeat(s, many/len(s)) }
	for name, s := range map[string]string{
		"a text": long("x"), "a title": "<title>" + long("x"), "end tags": "<title>" + long("</title"), "plain text": "<plaintext>" + long("<"), "a script": "<script>" + long("<!--<script></script>-->"),
		"a comment": "<!--" + long("x"), "dashes": "<!--" + long("-"), "ends": "<!--" + long("--!"), "bogus": "<!" + long("x"), "a doctype": "<!doctype" + long("x"),
		"a tag's name": "<" + long("x"), "a value": "<a x='" + long("x"), "values": "<a " + long("x='&lt;' "), "attributes": "</a " + long("x y z "), "slashes": "<a" + long("/"),
		"digits": "&#" + long("0") + "65;", "hexadecimal digits": "&#x" + long("f"), "digits in a title": "<title>&#" + long("7"), "letters": "&" + long("a"), "less": long("<"), "less, slash": long("</"), "nothing": long("</>"),
		"no references": long("&"), "tags": long("<b>"), "comments": long("<!---->"), "texts": long("<b>x"),
	} {
		for _, window := range []int{16, 1000, api.MaxWindow} {
			begin := time.Now()
			l := made(t, window)
			told := feedText(t, l, s)
			left, e := l.End()
			if took := time.Since(begin); took > 20*time.Second || e != api.OK {
				t.Errorf("%s, window %d: %v, %d", name, window, took, e)
			}
			agree(t, append(told, left...), lex(t, s, window), name)
		}
	}
	if got := lines(lex(t, "&#"+long("0")+"65;b", 16)); got != "text \"Ab\"\n" {
		t.Errorf("noughts: %.100s", got)
	}
	if got := lines(lex(t, "&#x"+long("f")+"0b", 16)); got != "text \"\uFFFD\"\n" {
		t.Errorf("a great number: %.100s", got)
	}
}

// TestNumbers: numbers with any noughts ahead of them, and any digits more than a code point has.
func TestNumbers(t *testing.T) {
	for noughts := range 20 {
		for digits, want := range map[string]string{
			"#65": "A", "#x41": "A", "#X41": "A", "#1114109": "\U0010FFFD", "#x10FFFD": "\U0010FFFD", "#1114112": "\uFFFD", "#x110000": "\uFFFD", "#4294967361": "\uFFFD", "#x100000041": "\uFFFD", "#0": "\uFFFD", "#x": "", "#": "",
			"#123456789": "\uFFFD", "#12345678": "\uFFFD", "#x1234567": "\uFFFD", "#x12345678": "\uFFFD", "#x123456789abcdef0123": "\uFFFD", "#99999999999999999999999": "\uFFFD", "#128": "€", "#x80": "€",
		} {
			head := strings.TrimRight(digits, "0123456789abcdefABCDEF")
			s := "&" + head + strings.Repeat("0", noughts) + digits[len(head):]
			if want == "" && noughts > 0 {
				want = "\uFFFD"
			} else if want == "" {
				want = s
			}
			for tail, behind := range map[string]string{";": "", ";;": ";", "g": "g", " ": " ", "": "", "&": "&", "<": "<", "é": "é"} {
				if want == s {
					behind = tail
				}
				got := lex(t, s+tail, 100)
				if len(got) != 1 || got[0].Text != want+behind {
					t.Errorf("%s: %v; want %q", s+tail, got, want+behind)
				}
			}
		}
	}
}

// heap: how many bytes are in use.
func heap() int {
	runtime.GC()
	var m runtime.MemStats
	runtime.ReadMemStats(&m)
	return int(m.HeapAlloc)
}

// No more is kept than a window's runes: not of a long comment, tag, number or text.
func TestKept(t *testing.T) {
	piece := input.Read([]byte(strings.Repeat("x", 1000)))
	digits := input.Read([]byte(strings.Repeat("7", 1000)))
	for head, cells := range map[string][]api.Cell{"": piece, "<!--": piece, "<!": piece, "</3": piece, "<!doctype": piece, "<a x='": piece, "</a x='": piece, "<a ": piece, "&#": digits, "<title>&#": digits, "<title>": piece, "<script><!--<script>": piece} {
		l := made(t, 16)
		feedText(t, l, head)
		before := heap()
		for range 4000 {
			feed(t, l, cells...)
		}
		if grown := heap() - before; grown > 1<<20 {
			t.Errorf("%s: %d bytes more", head, grown)
		}
		runtime.KeepAlive(l)
	}
	l := made(t, api.MaxWindow)
	before := heap()
	feedText(t, l, "&")
	for range 500 { // letters that make no name are text
		feed(t, l, piece...)
	}
	if grown := heap() - before; grown > 4<<20 {
		t.Errorf("letters: %d bytes more", grown)
	}
	runtime.KeepAlive(l)
}
