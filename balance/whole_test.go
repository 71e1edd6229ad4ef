package balance_test

import (
	"math/rand"
	"strings"
	"testing"

	"sieve/api"
	"sieve/balance"
	"sieve/filter"
	"sieve/lexer"
	"sieve/nest"
	"sieve/policy"
)

// along holds a balancer against the model, token by token and to the end, and All against it; it tells all events.
func along(t *testing.T, depth int, l []api.Token) []api.Event {
	t.Helper()
	b, m := made(t, depth), &model{depth: depth}
	wrong := false
	for at, x := range l {
		got, want := show(b.Take(x)), show(m.take(x))
		wrong = wrong || strings.HasSuffix(want, "errno 70")
		open, ghosts := strings.Join(b.Open(), " "), strings.Join(b.Ghosts(), " ")
		if got != want || open != strings.Join(m.open(), " ") || ghosts != strings.Join(m.ghosts, " ") {
			t.Fatalf("%d, token %d of %+v:\n%s\nopen %s, ghosts %s\nnot\n%s\nopen %s, ghosts %s", depth, at, l, got, open, ghosts, want, m.open(), m.ghosts)
		}
	}
	told, e := b.End()
	if got, want := show(told, nil, e), show(m.end(), nil, 0); got != want {
		t.Fatalf("%d, End of %+v:\n%s\nnot\n%s", depth, l, got, want)
	}
	if got, want := show(balance.All(depth, l...)), show(allOf(depth, l...)); got != want || wrong && got != "\n\nerrno 70" {
		t.Fatalf("%d, All of %+v:\n%s\nnot\n%s", depth, l, got, want)
	}
	return m.told
}

// P17.2, P17.3: all short lists of the tokens that matter, for all low caps.
func TestShortLists(t *testing.T) {
	t.Parallel()
	parts := tokens("+b +p +div +h1 +br +hr +col +td +li +ul +table +colgroup +pre +textarea +script -b -p -h2 -td -table -pre -br 'x '~ '~x '_ !c")
	parts = append(parts, text(""), doctype())
	for _, depth := range []int{1, 2, 4, 5} {
		var grow func(l []api.Token, left int)
		grow = func(l []api.Token, left int) {
			if left == 0 {
				laws(t, depth, along(t, depth, placed(l...)))
				return
			}
			for _, x := range parts {
				grow(append(l[:len(l):len(l)], x), left-1)
			}
		}
		for n := range 4 {
			grow(nil, n)
		}
	}
}

// P17.2, P17.5: all lists of up to five of the tokens that matter for pre, textarea and the cap.
func TestFreshLists(t *testing.T) {
	t.Parallel()
	parts := tokens("+pre +textarea +b -b -pre '~ '~x")
	for _, depth := range []int{1, 2, 9} {
		var grow func(l []api.Token, left int)
		grow = func(l []api.Token, left int) {
			if left == 0 {
				laws(t, depth, along(t, depth, placed(l...)))
				return
			}
			for _, x := range parts {
				grow(append(l[:len(l):len(l)], x), left-1)
			}
		}
		for n := range 6 {
			grow(nil, n)
		}
	}
}

// P17.2, P17.3: any tokens, for any cap; some that may not be among them.
func TestAnyTokens(t *testing.T) {
	t.Parallel()
	r := rand.New(rand.NewSource(17))
	for range 2500 {
		depth, l := someDepth(r), someTokens(r, 60)
		laws(t, depth, along(t, depth, l))
		if len(l) > 0 && r.Intn(3) == 0 {
			l[r.Intn(len(l))] = impossible()[r.Intn(len(impossible()))]
			along(t, depth, l)
		}
	}
}

// P17.3: All with a token that may not be, alone, ahead of, among and behind others: nothing but the error.
func TestAllWrong(t *testing.T) {
	good := tokens("+b 'x +li -i +script 'y")
	for _, x := range impossible() {
		for at := range len(good) + 1 {
			l := append(append(append([]api.Token{}, good[:at]...), x), good[at:]...)
			for _, l := range [][]api.Token{l, append(l[:at:at], x), append(l, text(""))} {
				if got := show(balance.All(9, l...)); got != "\n\nerrno 70" {
					t.Errorf("%+v: %s", l, got)
				}
			}
		}
	}
}

// laws holds what follows of all events of some tokens.
func laws(t *testing.T, depth int, l []api.Event) {
	t.Helper()
	var open []string
	for at, e := range l {
		switch e.Kind {
		case api.EventOpen, api.EventVoid:
			ok, wrong := nest.May(open, e.Name)
			if !ok || wrong != api.OK || len(open)+1 > depth || len(open) > 0 && open[len(open)-1] == "textarea" {
				t.Fatalf("%s: event %d", line(l), at)
			}
			if e.Kind == api.EventOpen {
				open = append(open, e.Name)
			}
			// P17.4: the stack is always right.
			if !nest.Right(open...) || e.Text != "" || among(voids, e.Name) != (e.Kind == api.EventVoid) {
				t.Fatalf("%s: event %d: %q", line(l), at, open)
			}
		case api.EventClose:
			if len(open) == 0 || open[len(open)-1] != e.Name || e.Text != "" || len(e.Attrs) > 0 {
				t.Fatalf("%s: event %d does not fit", line(l), at)
			}
			open = open[:len(open)-1]
		case api.EventText:
			fresh := at > 0 && l[at-1].Kind == api.EventOpen && among("pre textarea", l[at-1].Name)
			if p, _ := nest.Text(open, false); e.Text == "" || e.Name != "" || len(e.Attrs) > 0 || p.Close > 0 || len(p.Insert) > 0 || fresh && e.Text[0] == '\n' {
				t.Fatalf("%s: event %d", line(l), at)
			}
		default:
			t.Fatalf("%s: event %d is of no kind", line(l), at)
		}
	}
	if len(open) > 0 {
		t.Fatalf("%s: not complete", line(l))
	}
	// P17.6: turned into tokens again they are themselves.
	if got := show(balance.All(depth, again(l)...)); got != line(l)+"\n\nerrno 0" {
		t.Fatalf("%d, %s again:\n%s", depth, line(l), got)
	}
}

// again: the tokens of events.
func again(l []api.Event) []api.Token {
	var out []api.Token
	for _, e := range l {
		switch e.Kind {
		case api.EventOpen, api.EventVoid:
			out = append(out, start(e.Name, e.Attrs...))
		case api.EventClose:
			out = append(out, end(e.Name))
		default:
			out = append(out, text(e.Text))
		}
	}
	return placed(out...)
}

// P17.4 to P17.6: of tokens that nest deep, at high caps.
func TestDeepLaws(t *testing.T) {
	t.Parallel()
	r := rand.New(rand.NewSource(18))
	for range 12 {
		var l []api.Token
		for range 2500 {
			if x := someToken(r); x.Kind != api.TokenEnd || r.Intn(4) == 0 {
				l = append(l, x)
			}
		}
		depth := 100 + r.Intn(413)
		events, _, e := balance.All(depth, l...)
		if e != api.OK {
			t.Fatal(e)
		}
		laws(t, depth, events)
	}
}

// P17.2: tokens that may not be, put in anywhere, change nothing of what is answered of the others.
func TestWrongBetween(t *testing.T) {
	r := rand.New(rand.NewSource(19))
	wrong := impossible()
	for range 500 {
		depth, l := someDepth(r), someTokens(r, 30)
		b, c := made(t, depth), made(t, depth)
		for _, x := range l {
			for range r.Intn(3) {
				if got := show(b.Take(wrong[r.Intn(len(wrong))])); got != "\n\nerrno 70" {
					t.Fatal(got)
				}
			}
			if got, want := show(b.Take(x)), show(c.Take(x)); got != want {
				t.Fatalf("%+v:\n%s\nnot\n%s", x, got, want)
			}
		}
	}
}

// Markup, lexed and filtered by a policy that is made already.
func TestMarkup(t *testing.T) {
	p, _ := policy.Preset("full")
	for s, want := range map[string]string{
		"<b>bold<i>both</b>rest":           "+b 'bold +i 'both -i -b 'rest",
		"<p>one<p>two<div>three":           "+p 'one -p +p 'two -p +div 'three -div",
		"<script>alert(1)</script>x<br/>y": "'x =br 'y",
		"a < b &amp &copy; <svg>x</svg>":   "'a_<_b_&_©_",
		"<table><td>1<tr>text":             "+table +tbody +tr +td '1 -td -tr +tr +td 'text -td -tr -tbody -table",
		"<pre>\n\nx":                       "+pre 'x -pre",
		"<textarea><b>":                    "+textarea '<b> -textarea",
		"<a href=/x>y<a href=/z>":          `+a[href="/x"] 'y -a +a[href="/z"] -a`,
	} {
		l, _ := lexer.Lex([]byte(s), p.Window)
		left, _, _ := filter.All(p, l...)
		events, _, e := balance.All(p.Depth, left...)
		if got := line(events); got != want || e != api.OK {
			t.Errorf("%q: %s, %d; not %s", s, got, e, want)
		}
	}
}
