package balance_test

import (
	"slices"
	"strings"
	"testing"

	"sieve/api"
	"sieve/balance"
)

// caps: depths that may be, and that may not.
var (
	goodCaps  = []int{1, 2, 3, 256, 511, 512}
	wrongCaps = []int{0, -1, -512, 513, 514, 1024, 1 << 32, 1<<32 + 1, 1<<63 - 1, -1 << 63}
)

// P17.1, P17.3: depths that may not be, in New and in All; there the depth is looked at ahead of the tokens.
func TestWrongDepth(t *testing.T) {
	for _, depth := range wrongCaps {
		if b, e := balance.New(depth); b != nil || e != api.ErrArg {
			t.Errorf("New(%d): %v, %d", depth, b, e)
		}
		for _, l := range [][]api.Token{nil, {}, {text("x")}, {text("")}, {start("b"), end("i"), start("B")}} {
			if got := show(balance.All(depth, l...)); got != "\n\nerrno 1" {
				t.Errorf("All(%d): %s", depth, got)
			}
		}
	}
}

// P17.1: depths that may be: nothing is open, and nothing a ghost.
func TestRightDepth(t *testing.T) {
	for _, depth := range goodCaps {
		b := made(t, depth)
		stands(t, b, "", "")
		if l, e := b.End(); len(l) > 0 || e != api.OK {
			t.Errorf("%d: %v, %d", depth, l, e)
		}
		for _, l := range [][]api.Token{nil, {}} {
			if got := show(balance.All(depth, l...)); got != "\n\nerrno 0" {
				t.Errorf("All(%d): %s", depth, got)
			}
		}
	}
}

// P17.1, P17.4: just so many elements as the cap says are open at once.
func TestCap(t *testing.T) {
	for _, depth := range goodCaps {
		b := made(t, depth)
		for n := range depth {
			takes(t, b, start("b"), "+b", "")
			if open := b.Open(); len(open) != n+1 {
				t.Fatalf("%d: %d are open", depth, len(open))
			}
		}
		full := strings.Repeat("b ", depth)
		for _, name := range []string{"b", "i", "div", "td"} {
			takes(t, b, start(name), "", "0:depth:"+name)
		}
		takes(t, b, start("br"), "", "0:depth:br")
		takes(t, b, text("x"), "'x", "")
		stands(t, b, full, "b i div td")
		takes(t, b, end("b"), "", "")
		stands(t, b, full, "")
		takes(t, b, end("b"), "-b", "")
		takes(t, b, start("br"), "=br", "")
		takes(t, b, start("i"), "+i", "")
		takes(t, b, start("u"), "", "0:depth:u")
		l, e := b.End()
		want := append([]string{"-i"}, slices.Repeat([]string{"-b"}, depth-1)...)
		if got := line(l); got != strings.Join(want, " ") || e != api.OK {
			t.Errorf("%d: %s, %d", depth, got, e)
		}
	}
}

// R5: a balancer that no call made.
func TestNotMade(t *testing.T) {
	for name, b := range map[string]*balance.Balancer{"nil": nil, "zero": {}} {
		for range 2 {
			for _, x := range append(impossible(), tokens("+b -b 'x !c ! +script +br +td -h1")...) {
				if got := show(b.Take(x)); got != "\n\nerrno 2" {
					t.Errorf("%s: Take: %s", name, got)
				}
			}
			if l, e := b.End(); len(l) > 0 || e != api.ErrMade {
				t.Errorf("%s: End: %v, %d", name, l, e)
			}
			stands(t, b, "", "")
		}
	}
}

// P17.2, P17.3: behind End all is closed, and all that is asked for then is over; that goes ahead of a token that may not be.
func TestOver(t *testing.T) {
	for _, lead := range []string{"", "+b", "+b 'x +i", "+table 'x", "+pre", "+textarea '~", "+b +i +u -i", "-p", "+b +b +b", "+td"} {
		for _, depth := range []int{1, 2, 512} {
			b := made(t, depth)
			m := &model{depth: depth}
			for _, x := range tokens(lead) {
				b.Take(x)
				m.take(x)
			}
			l, e := b.End()
			if want := line(m.end()); line(l) != want || e != api.OK {
				t.Errorf("%s: End: %s, %d; not %s", lead, line(l), e, want)
			}
			ghosts := strings.Join(m.ghosts, " ")
			stands(t, b, "", ghosts)
			for range 2 {
				for _, x := range append(impossible(), tokens("+b -b 'x !c ! +script +br -h1")...) {
					if got := show(b.Take(x)); got != "\n\nerrno 3" {
						t.Errorf("%s: Take behind End: %s", lead, got)
					}
				}
				if l, e := b.End(); len(l) > 0 || e != api.ErrOver {
					t.Errorf("%s: End behind End: %v, %d", lead, l, e)
				}
				stands(t, b, "", ghosts)
			}
		}
	}
}
