package chunk_test

import (
	"math"
	"runtime"
	"slices"
	"testing"
	"testing/synctest"

	"sieve/api"
	"sieve/chunk"
)

// P2.12, P2.13: all small scripts, by each depth: what All tells; and again.
func TestAhead(t *testing.T) {
	for _, l := range scripts(3) {
		for n := 1; n <= 4; n++ {
			want := loop(source(t, l).All(n), 99)
			for _, depth := range []int{1, 2, 3, 999, 1000} {
				s := chunk.Ahead(l, n, depth)
				for range 2 {
					if got := loop(s, 99); !slices.Equal(got, want) {
						t.Fatalf("%s by %d, %d ahead: %v", show(l), n, depth, got)
					}
				}
			}
		}
	}
}

// P2.12: more answers than any depth.
func TestAheadLong(t *testing.T) {
	l := append(empties(1500, step("abc")), empties(2500, fails("d"))...)
	want := reads(l, 2)
	for _, depth := range []int{1, 7, 1000} {
		if got := loop(chunk.Ahead(l, 2, depth), 9999); !slices.Equal(got, want) {
			t.Errorf("%d ahead: %d answers", depth, len(got))
		}
	}
}

// P2.12: a script that is too large, ahead of all else; then arguments that may not be.
func TestAheadWrong(t *testing.T) {
	many := empties(api.MaxSteps + 1)
	for _, c := range []struct{ n, depth int }{{1, 1}, {0, 1}, {1, 0}, {-1, 1001}} {
		for range 2 {
			if got := loop(chunk.Ahead(many, c.n, c.depth), 99); !slices.Equal(got, []told{{err: api.ErrChunkLarge}}) {
				t.Errorf("too large, %v: %v", c, got)
			}
		}
	}
	for _, c := range []struct{ n, depth int }{{0, 1}, {-1, 1}, {math.MinInt, 1000}, {1, 0}, {1, -1}, {1, math.MinInt}, {1, 1001}, {1, math.MaxInt}, {0, 0}} {
		for _, most := range []int{1, 99} {
			if got := loop(chunk.Ahead([]api.Step{step("ab")}, c.n, c.depth), most); !slices.Equal(got, []told{{err: api.ErrArg}}) {
				t.Errorf("%v: %v", c, got)
			}
		}
	}
	if got := loop(chunk.Ahead(nil, 1, 1), 99); !slices.Equal(got, []told{{err: api.ErrChunkEnd}}) {
		t.Errorf("nothing: %v", got)
	}
	if got := loop(chunk.Ahead(many[:api.MaxSteps], math.MaxInt, 5), api.MaxSteps+9); len(got) != api.MaxSteps+1 {
		t.Errorf("as many steps as may be: %d answers", len(got))
	}
}

// P2.12, R3: loops are left early, gone over again, nested; each is from the beginning.
func TestAheadAgain(t *testing.T) {
	l := []api.Step{step("ab"), step(""), step("cde"), fails("f")}
	want := reads(l, 1)
	for _, depth := range []int{1, 2, 1000} {
		s := chunk.Ahead(l, 1, depth)
		for n := 1; n <= len(want); n++ {
			if got := loop(s, n); !slices.Equal(got, want[:n]) {
				t.Errorf("left behind %d: %v", n, got)
			}
		}
		var outer []told
		for b, e := range s {
			outer = append(outer, told{string(b), e})
			if got := loop(s, 99); !slices.Equal(got, want) {
				t.Errorf("nested: %v", got)
			}
		}
		if !slices.Equal(outer, want) {
			t.Errorf("around: %v", outer)
		}
	}
}

// P2.12, R3: the script may be changed behind the call, an answer behind its telling.
func TestAheadMemory(t *testing.T) {
	l := []api.Step{step("abcd"), fails("ef")}
	s := chunk.Ahead(l, 3, 2)
	clear(l[0].Data)
	clear(l)
	for range 2 {
		var got []string
		for b, e := range s {
			got = append(got, string(b))
			clear(append(b, "####"...))
			clear(b[:cap(b)])
			if e != api.OK && e != api.ErrChunkRead {
				t.Errorf("%d", e)
			}
		}
		if !slices.Equal(got, []string{"abc", "d", "ef", ""}) {
			t.Errorf("%q", got)
		}
	}
}

// quiet: are there as many goroutines as before? (One that has said that it is done may need a moment to be gone.)
func quiet(before int) bool {
	for range 100000 {
		if runtime.NumGoroutine() <= before {
			return true
		}
		runtime.Gosched()
	}
	return false
}

// P2.12: the goroutine has ended when the loop has, however that ends.
func TestAheadEnds(t *testing.T) {
	l := empties(3000)
	for _, depth := range []int{1, 2, 1000} {
		s := chunk.Ahead(l, 1, depth)
		before := runtime.NumGoroutine()
		for most := 1; most < 20; most++ {
			loop(s, most)
		}
		for range 20 {
			func() {
				defer func() {
					if recover() == nil {
						t.Error("the panic of the loop's body is lost")
					}
				}()
				for range s {
					panic("out")
				}
			}()
		}
		if !quiet(before) {
			t.Errorf("%d ahead: %d goroutines, not %d", depth, runtime.NumGoroutine(), before)
		}
	}
}

// P2.12: a goroutine that were left behind would stay blocked; the bubble does not end then.
func TestAheadBubble(t *testing.T) {
	synctest.Test(t, func(t *testing.T) {
		for _, depth := range []int{1, 5} {
			for b, e := range chunk.Ahead(empties(50, step("x")), 1, depth) {
				synctest.Wait()
				if len(b) != 0 || e != api.OK {
					t.Errorf("%q, %d", b, e)
				}
				break
			}
		}
	})
}
