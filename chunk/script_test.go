package chunk_test

import (
	"bytes"
	"math"
	"testing"

	"sieve/api"
	"sieve/chunk"
)

// P2.3: all small scripts, held against what reads tell.
func TestBytes(t *testing.T) {
	for _, l := range scripts(3) {
		want := ""
		var last api.Errno
		for _, r := range reads(l, 1) {
			want += r.data
			last = r.err
		}
		b, failed := chunk.Bytes(l)
		if string(b) != want || failed != (last == api.ErrChunkRead) {
			t.Errorf("%s: %q, %v", show(l), b, failed)
		}
	}
}

// P2.3: the chapter's second example; a script that is too large has bytes, too.
func TestBytesEdges(t *testing.T) {
	if b, failed := chunk.Bytes([]api.Step{fails("ab"), step("c")}); string(b) != "ab" || !failed {
		t.Errorf("%q, %v", b, failed)
	}
	if b, failed := chunk.Bytes(nil); len(b) != 0 || failed {
		t.Errorf("none: %q, %v", b, failed)
	}
	if b, failed := chunk.Bytes(empties(api.MaxSteps, step("x"))); string(b) != "x" || failed {
		t.Errorf("many steps: %q, %v", b, failed)
	}
}

// P2.3, R3: an answer is new memory.
func TestBytesMemory(t *testing.T) {
	for _, l := range [][]api.Step{{step("abc")}, {step("abc"), step("d")}, {step(""), fails("abc")}} {
		b, _ := chunk.Bytes(l)
		clear(b[:cap(b)])
		if again, _ := chunk.Bytes(l); string(again[:3]) != "abc" {
			t.Errorf("the script shares its answer: %s", show(l))
		}
	}
}

// P2.3: pairs of scripts.
func TestSame(t *testing.T) {
	for i, c := range []struct {
		a, b []api.Step
		want bool
	}{
		{nil, nil, true},
		{nil, empties(3), true},
		{nil, []api.Step{fails("")}, false},
		{[]api.Step{fails("")}, empties(2, fails(""), step("x")), true},
		{[]api.Step{step("ab")}, []api.Step{step("a"), step("b")}, true},
		{[]api.Step{step("ab")}, []api.Step{step("a"), step("c")}, false},
		{[]api.Step{step("ab")}, []api.Step{step("a")}, false},
		{[]api.Step{step("ab")}, []api.Step{step("b"), step("a")}, false},
		{[]api.Step{step("ab")}, []api.Step{step("a"), fails("b")}, false},
		{[]api.Step{fails("ab")}, []api.Step{step("a"), fails("b"), fails("c")}, true},
		{[]api.Step{fails("a"), step("b")}, []api.Step{step("a"), fails("b")}, false},
	} {
		if chunk.Same(c.a, c.b) != c.want || chunk.Same(c.b, c.a) != c.want {
			t.Errorf("%d: %s and %s: not %v", i, show(c.a), show(c.b), c.want)
		}
	}
}

// cutWant: the steps by the chapter's words.
func cutWant(data string, cuts []int, fail bool) []api.Step {
	var l []api.Step
	places := []int{0}
	for i, c := range cuts {
		if c < places[i] {
			c = places[i]
		}
		if c > len(data) {
			c = len(data)
		}
		places = append(places, c)
		l = append(l, step(data[places[i]:places[i+1]]))
	}
	return append(l, api.Step{Data: []byte(data[places[len(cuts)]:]), Fail: fail})
}

// equal: the same steps?
func equal(a, b []api.Step) bool {
	same := len(a) == len(b)
	for i := 0; same && i < len(a); i++ {
		same = bytes.Equal(a[i].Data, b[i].Data) && a[i].Fail == b[i].Fail
	}
	return same
}

// P2.4, P2.11: all lists of up to three cuts around short data.
func TestCut(t *testing.T) {
	places := []int{math.MinInt, -1, 0, 1, 2, 3, 4, math.MaxInt}
	lists := [][]int{nil, {}}
	for _, a := range places {
		lists = append(lists, []int{a})
		for _, b := range places {
			lists = append(lists, []int{a, b})
			for _, c := range places {
				lists = append(lists, []int{a, b, c})
			}
		}
	}
	for _, data := range []string{"", "a", "abc"} {
		for _, cuts := range lists {
			for _, fail := range []bool{false, true} {
				l := chunk.Cut([]byte(data), cuts, fail)
				if !equal(l, cutWant(data, cuts, fail)) {
					t.Errorf("Cut(%q, %v, %v): %s", data, cuts, fail, show(l))
				}
				if b, failed := chunk.Bytes(l); string(b) != data || failed != fail {
					t.Errorf("Bytes of Cut(%q, %v, %v): %q, %v", data, cuts, fail, b, failed)
				}
			}
		}
	}
}

// P2.4: the chapter's first example.
func TestCutExample(t *testing.T) {
	if l := chunk.Cut([]byte("abc"), []int{1, 1, 9}, false); !equal(l, []api.Step{step("a"), step(""), step("bc"), step("")}) {
		t.Errorf("%s", show(l))
	}
	if l := chunk.Cut(nil, nil, true); !equal(l, []api.Step{fails("")}) {
		t.Errorf("of nothing: %s", show(l))
	}
}

// P2.4, R3: arguments stay as they are, and no two steps share memory.
func TestCutMemory(t *testing.T) {
	data, cuts := []byte("abcdefgh"), []int{4, 2, 5}
	l := chunk.Cut(data[:7], cuts, false)
	if string(data) != "abcdefgh" || cuts[0] != 4 || cuts[1] != 2 || cuts[2] != 5 {
		t.Errorf("changed: %q, %v", data, cuts)
	}
	clear(data)
	for i, want := range []string{"abcd", "", "e", "fg"} {
		if string(l[i].Data) != want {
			t.Errorf("step %d: %q", i, l[i].Data)
		}
		clear(append(l[i].Data, "####"...))
		clear(l[i].Data[:cap(l[i].Data)])
	}
}
