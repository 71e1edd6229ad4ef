package chunk_test

import (
	"math"
	"slices"
	"strconv"
	"strings"
	"testing"

	"sieve/api"
	"sieve/chunk"
)

// told is one answer.
type told struct {
	data string
	err  api.Errno
}

// step: one that does not fail.
func step(s string) api.Step { return api.Step{Data: []byte(s)} }

// fails: one that does.
func fails(s string) api.Step { return api.Step{Data: []byte(s), Fail: true} }

// empties: so many empty steps, and what stands behind them.
func empties(n int, behind ...api.Step) []api.Step {
	return append(make([]api.Step, n), behind...)
}

// source: one over a script that is not too large.
func source(t *testing.T, l []api.Step) *chunk.Source {
	t.Helper()
	s, e := chunk.New(l)
	if e != api.OK || s == nil {
		t.Fatalf("New: %v, %d", s, e)
	}
	return s
}

// scripts: all of at most most steps, each with up to three bytes, failing or not.
func scripts(most int) [][]api.Step {
	all := [][]api.Step{nil}
	for from, k := 0, 0; k < most; k++ {
		to := len(all)
		for _, l := range all[from:to] {
			for n := range 4 {
				data := []byte("abcdefghijkl")[3*k : 3*k+n]
				for _, fail := range []bool{false, true} {
					all = append(all, append(slices.Clip(l), api.Step{Data: data, Fail: fail}))
				}
			}
		}
		from = to
	}
	return all
}

// show: a script, for a message.
func show(l []api.Step) string {
	var out strings.Builder
	for _, s := range l {
		out.WriteString(strconv.Quote(string(s.Data)))
		if s.Fail {
			out.WriteString("!")
		}
		out.WriteString(" ")
	}
	return out.String()
}

// reads: what reads of n tell by the chapter's words, up to the first error.
func reads(l []api.Step, n int) []told {
	var out []told
	for _, s := range l {
		rest := string(s.Data)
		if rest == "" && !s.Fail {
			out = append(out, told{})
		}
		for rest != "" {
			k := min(n, len(rest))
			out = append(out, told{data: rest[:k]})
			rest = rest[k:]
		}
		if s.Fail {
			return append(out, told{err: api.ErrChunkRead})
		}
	}
	return append(out, told{err: api.ErrChunkEnd})
}

// P2.1, P2.2: the chapter's first example.
func TestReadExample(t *testing.T) {
	s := source(t, chunk.Cut([]byte("abc"), []int{1, 1, 9}, false))
	for i, want := range []told{{data: "a"}, {}, {data: "bc"}, {}, {err: api.ErrChunkEnd}, {err: api.ErrChunkEnd}} {
		if s.Over() != (want.err != api.OK) {
			t.Errorf("ahead of read %d: Over %v", i, s.Over())
		}
		if b, e := s.Read(2); string(b) != want.data || e != want.err {
			t.Errorf("read %d: %q, %d", i, b, e)
		}
	}
}

// P2.1, P2.2, P2.9: all small scripts, by reads of each size; empty steps and failing ones stand in all places.
func TestReadAll(t *testing.T) {
	for _, l := range scripts(3) {
		for n := 1; n <= 4; n++ {
			s := source(t, l)
			sum := 0
			for i, want := range reads(l, n) {
				if s.Over() != (want.err != api.OK) || s.Told() != sum {
					t.Fatalf("%s by %d, ahead of read %d: Over %v, Told %d", show(l), n, i, s.Over(), s.Told())
				}
				b, e := s.Read(n)
				if string(b) != want.data || e != want.err {
					t.Fatalf("%s by %d, read %d: %q, %d", show(l), n, i, b, e)
				}
				sum += len(b)
				for k := 0; want.err != api.OK && k < 3; k++ {
					if b, e := s.Read(n + k); len(b) != 0 || e != want.err || !s.Over() || s.Told() != sum {
						t.Fatalf("%s by %d, over: %q, %d", show(l), n, b, e)
					}
				}
			}
		}
	}
}

// P2.1: reads of different sizes, one behind the other; the largest int asks for all that there is.
func TestReadSizes(t *testing.T) {
	s := source(t, []api.Step{step("abcdef"), step(""), step("ghi"), fails("jk"), step("l")})
	for i, c := range []struct {
		n    int
		want told
	}{
		{1, told{data: "a"}}, {3, told{data: "bcd"}}, {2, told{data: "ef"}}, {9, told{}}, {math.MaxInt, told{data: "ghi"}},
		{1, told{data: "j"}}, {1, told{data: "k"}}, {1, told{err: api.ErrChunkRead}}, {5, told{err: api.ErrChunkRead}},
	} {
		if b, e := s.Read(c.n); string(b) != c.want.data || e != c.want.err {
			t.Errorf("read %d of %d: %q, %d", i, c.n, b, e)
		}
	}
	if s.Told() != 11 || !s.Over() {
		t.Errorf("Told %d, Over %v", s.Told(), s.Over())
	}
}

// P2.1, P2.2: n below 1, also when it is over, changes nothing.
func TestReadWrong(t *testing.T) {
	for _, l := range [][]api.Step{nil, {step("ab")}, {step("")}, {fails("")}, {fails("ab")}} {
		s := source(t, l)
		over := s.Over()
		for _, n := range []int{0, -1, math.MinInt} {
			if b, e := s.Read(n); len(b) != 0 || e != api.ErrArg || s.Over() != over || s.Told() != 0 {
				t.Errorf("%s: Read(%d): %q, %d", show(l), n, b, e)
			}
		}
		want := reads(l, 1)[0]
		if b, e := s.Read(1); string(b) != want.data || e != want.err {
			t.Errorf("%s behind that: %q, %d", show(l), b, e)
		}
	}
}

// P2.1, P2.2, R5: sources that no call made.
func TestSourceUnmade(t *testing.T) {
	for _, s := range []*chunk.Source{nil, {}} {
		for _, n := range []int{math.MinInt, 0, 1, 5} {
			if b, e := s.Read(n); len(b) != 0 || e != api.ErrMade {
				t.Errorf("Read(%d): %q, %d", n, b, e)
			}
		}
		if s.Told() != 0 || !s.Over() {
			t.Errorf("Told %d, Over %v", s.Told(), s.Over())
		}
	}
}

// P2.1: a script of as many steps as may be, and of one more.
func TestSteps(t *testing.T) {
	l := empties(api.MaxSteps-1, step("x"))
	s := source(t, l)
	for i := range l {
		want := ""
		if i == len(l)-1 {
			want = "x"
		}
		if b, e := s.Read(1); string(b) != want || e != api.OK {
			t.Fatalf("read %d: %q, %d", i, b, e)
		}
	}
	if _, e := s.Read(1); e != api.ErrChunkEnd {
		t.Errorf("behind all: %d", e)
	}
	for _, l := range [][]api.Step{append(l, step("")), append([]api.Step{fails("")}, l...)} {
		if s, e := chunk.New(l); s != nil || e != api.ErrChunkLarge {
			t.Errorf("one more: %d", e)
		}
	}
}

// P2.1: a script of as many bytes as may be, and of one more, be they in reach or not.
func TestLarge(t *testing.T) {
	half := make([]byte, api.MaxInput/2)
	whole := make([]byte, api.MaxInput)
	whole[api.MaxInput-1] = 'z'
	for _, l := range [][]api.Step{{{Data: whole}}, {{Data: half}, {}, {Data: half}}, {{Data: half, Fail: true}, {Data: half}}} {
		source(t, l)
		if s, e := chunk.New(append(l, step("x"))); s != nil || e != api.ErrChunkLarge {
			t.Errorf("one more: %d", e)
		}
		if s, e := chunk.New(append([]api.Step{fails("x")}, l...)); s != nil || e != api.ErrChunkLarge {
			t.Errorf("one more in front: %d", e)
		}
	}
	s := source(t, []api.Step{{Data: whole}})
	if b, e := s.Read(math.MaxInt); len(b) != api.MaxInput || b[api.MaxInput-1] != 'z' || e != api.OK || s.Told() != api.MaxInput {
		t.Errorf("all: %d bytes, %d", len(b), e)
	}
	// many steps that are one list: their sum counts, not their memory
	l := make([]api.Step, api.MaxSteps)
	for i := range l {
		l[i].Data = whole
	}
	if s, e := chunk.New(l); s != nil || e != api.ErrChunkLarge {
		t.Errorf("2^40: %d", e)
	}
}

// P2.1, R3: the script may be changed behind New, and an answer behind Read; New changes nothing.
func TestReadMemory(t *testing.T) {
	data := []byte("abcdef..")
	l := []api.Step{{Data: data[:3]}, {Data: data[3:6], Fail: true}}
	s := source(t, l)
	if string(data) != "abcdef.." {
		t.Errorf("changed: %q", data)
	}
	clear(data)
	clear(l)
	var got []string
	for !s.Over() {
		b, _ := s.Read(2)
		got = append(got, string(b))
		clear(append(b, "####"...)[:cap(b)])
	}
	if !slices.Equal(got, []string{"ab", "c", "de", "f"}) {
		t.Errorf("%q", got)
	}
	if _, e := s.Read(1); e != api.ErrChunkRead {
		t.Errorf("behind all: %d", e)
	}
}

// R4: sources over one script, and a copy of one, know nothing of each other.
func TestSourcesApart(t *testing.T) {
	l := []api.Step{step("abcd")}
	one, two := source(t, l), source(t, l)
	one.Read(1)
	three := *one
	one.Read(2)
	for want, s := range map[string]*chunk.Source{"d": one, "abcd": two, "bcd": &three} {
		if b, e := s.Read(9); string(b) != want || e != api.OK {
			t.Errorf("%q, %d, not %q", b, e, want)
		}
	}
}

// loop: what an iterator tells, up to so many.
func loop(all func(func([]byte, api.Errno) bool), most int) []told {
	var out []told
	for b, e := range all {
		out = append(out, told{string(b), e})
		if len(out) == most {
			break
		}
	}
	return out
}

// P2.8: all small scripts.
func TestAll(t *testing.T) {
	for _, l := range scripts(3) {
		for n := 1; n <= 4; n++ {
			s := source(t, l)
			want := reads(l, n)
			if got := loop(s.All(n), 99); !slices.Equal(got, want) {
				t.Fatalf("%s by %d: %v", show(l), n, got)
			}
			if got := loop(s.All(n), 99); !slices.Equal(got, want[len(want)-1:]) {
				t.Fatalf("%s by %d, again: %v", show(l), n, got)
			}
		}
	}
}

// P2.8: a loop that is left early, gone over again, nested: each goes on behind what was told.
func TestAllAgain(t *testing.T) {
	l := []api.Step{step("ab"), step(""), step("cde"), fails("f")}
	want := reads(l, 1)
	for n := 1; n <= len(want); n++ {
		s := source(t, l)
		all := s.All(1)
		if s.Told() != 0 {
			t.Error("asked for, and read")
		}
		var got []told
		for len(got) < len(want) {
			got = append(got, loop(all, n)...)
		}
		if !slices.Equal(got, want) {
			t.Errorf("left behind %d: %v", n, got)
		}
	}
	s := source(t, l)
	all := s.All(1)
	var got []told
	for b, e := range all {
		got = append(got, told{string(b), e})
		got = append(got, loop(all, 2)...)
		b, e = s.Read(1)
		got = append(got, told{string(b), e})
	}
	last := told{err: api.ErrChunkRead}
	if !slices.Equal(got, append(slices.Clone(want), last, last, last)) {
		t.Errorf("nested: %v", got)
	}
}

// P2.8: n below 1, and sources that no call made.
func TestAllWrong(t *testing.T) {
	for _, n := range []int{0, -1, math.MinInt} {
		s := source(t, []api.Step{step("ab")})
		for range 2 {
			if got := loop(s.All(n), 99); !slices.Equal(got, []told{{err: api.ErrArg}}) {
				t.Errorf("All(%d): %v", n, got)
			}
		}
		if s.Told() != 0 || s.Over() {
			t.Errorf("All(%d) read", n)
		}
	}
	for _, s := range []*chunk.Source{nil, {}} {
		for _, n := range []int{math.MinInt, 0, 1} {
			if got := loop(s.All(n), 99); len(got) != 0 {
				t.Errorf("All(%d) of none: %v", n, got)
			}
		}
	}
}
