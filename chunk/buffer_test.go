package chunk_test

import (
	"bytes"
	"math"
	"math/rand/v2"
	"strings"
	"testing"

	"sieve/api"
	"sieve/chunk"
)

// buffer: one over a script.
func buffer(t *testing.T, size int, l ...api.Step) *chunk.Buffer {
	t.Helper()
	b, e := chunk.NewBuffer(source(t, l), size)
	if e != api.OK || b == nil {
		t.Fatalf("NewBuffer: %d", e)
	}
	return b
}

// is holds an answer against what is wanted.
func is(t *testing.T, what string, b []byte, e api.Errno, want string, f api.Errno) {
	t.Helper()
	if string(b) != want || e != f {
		t.Errorf("%s: %q, %d; not %q, %d", what, b, e, want, f)
	}
}

// counts holds Has and Taken against what is wanted.
func counts(t *testing.T, b *chunk.Buffer, has, taken int) {
	t.Helper()
	if b.Has() != has || b.Taken() != taken {
		t.Errorf("Has %d, Taken %d; not %d, %d", b.Has(), b.Taken(), has, taken)
	}
}

// P2.5, P2.6, P2.7: the chapter's second example.
func TestBufferFails(t *testing.T) {
	b := buffer(t, 8, fails("ab"), step("c"))
	p, e := b.Peek(2)
	is(t, "Peek(2)", p, e, "ab", api.OK)
	counts(t, b, 2, 0)
	p, e = b.Take(3)
	is(t, "Take(3)", p, e, "ab", api.ErrChunkRead)
	counts(t, b, 0, 2)
	p, e = b.Take(1)
	is(t, "Take(1)", p, e, "", api.ErrChunkRead)
	p, e = b.Take(0)
	is(t, "Take(0)", p, e, "", api.OK)
	p, e = b.Until('c')
	is(t, "Until", p, e, "", api.ErrChunkRead)
	p, e = b.Rest()
	is(t, "Rest", p, e, "", api.ErrChunkRead)
	counts(t, b, 0, 2)
}

// P2.6: the chapter's third example, with what is held all the while.
func TestUntilFull(t *testing.T) {
	b := buffer(t, 3, step("abcdef"))
	for range 2 {
		p, e := b.Until('d')
		is(t, "Until(d)", p, e, "", api.ErrChunkFull)
		counts(t, b, 3, 0)
	}
	p, e := b.Take(2)
	is(t, "Take(2)", p, e, "ab", api.OK)
	counts(t, b, 1, 2)
	p, e = b.Until('d')
	is(t, "Until(d)", p, e, "cd", api.OK)
	counts(t, b, 1, 4) // as many are read as there is room for
	p, e = b.Until('f')
	is(t, "Until(f)", p, e, "ef", api.OK)
	counts(t, b, 0, 6)
}

// P2.6: full is told even where the source is over; the c may be the last byte that there is room for.
func TestUntilEdges(t *testing.T) {
	b := buffer(t, 3, fails("abc"))
	p, e := b.Until('x')
	is(t, "full at the end", p, e, "", api.ErrChunkFull)
	p, e = b.Until('c')
	is(t, "the last byte", p, e, "abc", api.OK)
	p, e = b.Until('c')
	is(t, "behind it", p, e, "", api.ErrChunkRead)

	b = buffer(t, 4, step("a"), step(""), step("b"), step("c"))
	p, e = b.Until('b')
	is(t, "one read each", p, e, "ab", api.OK)
	counts(t, b, 0, 2)
	p, e = b.Until(0)
	is(t, "none", p, e, "c", api.ErrChunkEnd)
	counts(t, b, 0, 3)

	b = buffer(t, 9, step("aXbXc"))
	for _, want := range []string{"aX", "bX"} {
		p, e = b.Until('X')
		is(t, "of several", p, e, want, api.OK)
	}
	p, e = b.Until('X')
	is(t, "what is left", p, e, "c", api.ErrChunkEnd)

	b = buffer(t, 9, step("\xff\x00a"), fails("b"))
	p, e = b.Until(0)
	is(t, "NUL", p, e, "\xff\x00", api.OK)
	p, e = b.Until('x')
	is(t, "bytes with the error", p, e, "ab", api.ErrChunkRead)
}

// P2.5: the last example, and Peek of 0 and of size.
func TestPeek(t *testing.T) {
	b := buffer(t, 4, empties(100, step("x"))...)
	p, e := b.Peek(1)
	is(t, "stuck", p, e, "", api.ErrChunkStuck)
	p, e = b.Peek(1)
	is(t, "again", p, e, "x", api.OK)

	b = buffer(t, 4, step("ab"), step("cdefg"))
	p, e = b.Peek(0)
	is(t, "Peek(0)", p, e, "", api.OK)
	counts(t, b, 0, 0)
	p, e = b.Peek(1)
	is(t, "Peek(1)", p, e, "a", api.OK)
	counts(t, b, 2, 0)
	p, e = b.Peek(4)
	is(t, "Peek(4)", p, e, "abcd", api.OK)
	counts(t, b, 4, 0)
	p, e = b.Take(3)
	is(t, "Take(3)", p, e, "abc", api.OK)
	p, e = b.Peek(4)
	is(t, "Peek(4)", p, e, "defg", api.OK)
	p, e = b.Take(4)
	is(t, "Take(4)", p, e, "defg", api.OK)
	p, e = b.Peek(0)
	is(t, "Peek(0) at the end", p, e, "", api.OK)
	p, e = b.Peek(4)
	is(t, "Peek(4) at the end", p, e, "", api.ErrChunkEnd)
	counts(t, b, 0, 7)
}

// P2.5, P2.6: 99, 100 and 101 empty reads, in each call, with bytes held and without.
func TestStuck(t *testing.T) {
	calls := map[string]func(*chunk.Buffer) ([]byte, api.Errno){
		"Peek":  func(b *chunk.Buffer) ([]byte, api.Errno) { return b.Peek(3) },
		"Take":  func(b *chunk.Buffer) ([]byte, api.Errno) { return b.Take(3) },
		"Until": func(b *chunk.Buffer) ([]byte, api.Errno) { return b.Until('z') },
		"Rest":  func(b *chunk.Buffer) ([]byte, api.Errno) { return b.Rest() },
	}
	for name, call := range calls {
		for _, front := range []string{"", "ab"} {
			for _, n := range []int{99, 100, 101, 199, 200} {
				b := buffer(t, 9, append([]api.Step{step(front)}, empties(n, step("xyz"))...)...)
				b.Peek(len(front))
				if front == "" { // the empty step at the front is one more
					n++
				}
				left := front
				for ; n >= 100; n -= 100 {
					p, e := call(b)
					is(t, name+" stuck", p, e, left, api.ErrChunkStuck)
					if name != "Peek" {
						left = ""
					}
				}
				want, wantErr := left+"xyz", api.OK
				if name == "Peek" || name == "Take" {
					want = want[:3]
				}
				p, e := call(b)
				is(t, name+" not stuck", p, e, want, wantErr)
			}
		}
	}
}

// P2.5, P2.6: only empty reads one behind the other count; the end and the failure behind 99 are told, behind 100 not yet.
func TestStuckEdges(t *testing.T) {
	l := append(empties(99, step("a")), append(empties(99, step("b")), empties(99)...)...)
	b := buffer(t, 9, l...)
	p, e := b.Take(3)
	is(t, "three times 99", p, e, "ab", api.ErrChunkEnd)
	p, e = buffer(t, 9, l...).Until('c')
	is(t, "Until over three times 99", p, e, "ab", api.ErrChunkEnd)
	p, e = buffer(t, 1, l...).Rest()
	is(t, "Rest of three times 99", p, e, "ab", api.OK)
	p, e = buffer(t, 1, append(l, step(""), step("c"))...).Rest()
	is(t, "Rest, stuck", p, e, "ab", api.ErrChunkStuck)

	b = buffer(t, 9, empties(99, fails(""))...)
	p, e = b.Peek(1)
	is(t, "99 and a failure", p, e, "", api.ErrChunkRead)
	b = buffer(t, 9, empties(100, fails("a"))...)
	p, e = b.Peek(1)
	is(t, "100", p, e, "", api.ErrChunkStuck)
	p, e = b.Peek(2)
	is(t, "and a failure", p, e, "a", api.ErrChunkRead)

	b = buffer(t, 9, empties(150, step("a"))...) // no call carries its empty reads into the next one
	p, e = b.Peek(0)
	is(t, "nothing", p, e, "", api.OK)
	p, e = b.Take(1)
	is(t, "100 of 150", p, e, "", api.ErrChunkStuck)
	p, e = b.Until('a')
	is(t, "50 of 150", p, e, "a", api.OK)
}

// P2.6: Rest with sizes below and above what there is.
func TestRest(t *testing.T) {
	for _, size := range []int{1, 2, 3, 5, 6, 7, api.MaxInput} {
		b := buffer(t, size, step("abc"), step(""), step("def"))
		p, e := b.Take(1)
		is(t, "Take(1)", p, e, "a", api.OK)
		p, e = b.Rest()
		is(t, "Rest", p, e, "bcdef", api.OK)
		counts(t, b, 0, 6)
		p, e = b.Rest()
		is(t, "Rest again", p, e, "", api.OK)
		p, e = buffer(t, size, step("abc"), fails("de"), step("f")).Rest()
		is(t, "Rest, failing", p, e, "abcde", api.ErrChunkRead)
	}
}

// P2.5, P2.6, P2.7, R5: buffers that no call made.
func TestBufferUnmade(t *testing.T) {
	for _, b := range []*chunk.Buffer{nil, {}} {
		for _, n := range []int{math.MinInt, -1, 0, 1, math.MaxInt} {
			p, e := b.Peek(n)
			is(t, "Peek", p, e, "", api.ErrMade)
			p, e = b.Take(n)
			is(t, "Take", p, e, "", api.ErrMade)
		}
		p, e := b.Until('a')
		is(t, "Until", p, e, "", api.ErrMade)
		p, e = b.Rest()
		is(t, "Rest", p, e, "", api.ErrMade)
		counts(t, b, 0, 0)
	}
}

// P2.5: sources and sizes that may not be; ErrMade is ahead of ErrArg.
func TestNewBufferWrong(t *testing.T) {
	for _, s := range []*chunk.Source{nil, {}} {
		for _, size := range []int{math.MinInt, 0, 1, api.MaxInput + 1} {
			if b, e := chunk.NewBuffer(s, size); b != nil || e != api.ErrMade {
				t.Errorf("no source, size %d: %d", size, e)
			}
		}
	}
	s := source(t, []api.Step{step("ab")})
	for _, size := range []int{math.MinInt, -1, 0, api.MaxInput + 1, math.MaxInt} {
		if b, e := chunk.NewBuffer(s, size); b != nil || e != api.ErrArg {
			t.Errorf("size %d: %d", size, e)
		}
	}
	for _, size := range []int{1, api.MaxInput} {
		if b, e := chunk.NewBuffer(s, size); b == nil || e != api.OK || s.Told() != 0 {
			t.Errorf("size %d: %d", size, e)
		}
	}
}

// P2.5, P2.6: numbers that may not be change nothing, at the source's end neither.
func TestPeekWrong(t *testing.T) {
	for _, l := range [][]api.Step{nil, {step("abc")}, {fails("")}} {
		b := buffer(t, 2, l...)
		for range 2 {
			for _, n := range []int{math.MinInt, -1, 3, math.MaxInt} {
				has := b.Has()
				p, e := b.Peek(n)
				is(t, "Peek", p, e, "", api.ErrArg)
				p, e = b.Take(n)
				is(t, "Take", p, e, "", api.ErrArg)
				counts(t, b, has, 0)
			}
			b.Peek(1)
		}
	}
}

// P2.5: a buffer as large as may be, full.
func TestBufferLarge(t *testing.T) {
	data := bytes.Repeat([]byte("0123456789abcdef"), api.MaxInput/16)
	cuts := make([]int, api.MaxSteps-1)
	for i := range cuts { // a great step, and many short ones: growing must not take the time of all their sums
		cuts[i] = api.MaxInput - len(cuts) + i
	}
	b := buffer(t, api.MaxInput, chunk.Cut(data, cuts, false)...)
	p, e := b.Peek(api.MaxInput)
	if !bytes.Equal(p, data) || e != api.OK || b.Has() != api.MaxInput {
		t.Errorf("Peek: %d bytes, %d", len(p), e)
	}
	if p, e := b.Until('x'); len(p) != 0 || e != api.ErrChunkFull {
		t.Errorf("Until: %d bytes, %d", len(p), e)
	}
	if p, e := b.Rest(); !bytes.Equal(p, data) || e != api.OK {
		t.Errorf("Rest: %d bytes, %d", len(p), e)
	}
	p, e = buffer(t, 1, api.Step{Data: data[:1<<20]}).Rest()
	if !bytes.Equal(p, data[:1<<20]) || e != api.OK {
		t.Errorf("Rest by ones: %d bytes, %d", len(p), e)
	}
}

// R3: what is done with an answer is not seen in the next one; an answer stays as it is.
func TestBufferMemory(t *testing.T) {
	b := buffer(t, 8, step("abc"), step("defgh"), step("ij"))
	first, _ := b.Peek(2)
	for range 2 {
		p, _ := b.Peek(2)
		is(t, "Peek", p, 0, "ab", 0)
		clear(p[:cap(p)])
	}
	p, _ := b.Take(1)
	clear(p[:cap(p)])
	p, _ = b.Until('d')
	is(t, "Until", p, 0, "bcd", 0)
	clear(p[:cap(p)])
	p, _ = b.Rest()
	is(t, "Rest", p, 0, "efghij", 0)
	is(t, "the first answer", first, 0, "ab", 0)
}

// R4: a copy of a buffer reads the same source, but neither changes what the other holds.
func TestBufferCopy(t *testing.T) {
	b := buffer(t, 40, step("abc"), step("d"), step("e"), step("f"), step("g"))
	b.Peek(4)
	c := *b
	p, e := b.Peek(5)
	is(t, "the one", p, e, "abcde", api.OK)
	p, e = c.Peek(5)
	is(t, "the other", p, e, "abcdf", api.OK)
	p, e = b.Peek(5)
	is(t, "the one again", p, e, "abcde", api.OK)
}

// model is a buffer by the chapter's words, one text and one read at a time.
type model struct {
	src   *chunk.Source
	size  int
	held  string
	taken int
	empty int // reads without bytes, one behind the other within a call
}

// read is one read; what it answers is OK, or why there is no other one.
func (m *model) read() api.Errno {
	b, e := m.src.Read(m.size - len(m.held))
	m.held += string(b)
	m.empty++
	if len(b) > 0 {
		m.empty = 0
	}
	if e == api.OK && m.empty == 100 {
		e = api.ErrChunkStuck
	}
	return e
}

func (m *model) peek(n int) (string, api.Errno) {
	m.empty = 0
	for len(m.held) < n {
		if e := m.read(); e != api.OK {
			return m.held, e
		}
	}
	return m.held[:n], api.OK
}

func (m *model) until(c byte) (string, api.Errno) {
	m.empty = 0
	for strings.IndexByte(m.held, c) < 0 {
		if len(m.held) == m.size {
			return "", api.ErrChunkFull
		}
		if e := m.read(); e != api.OK {
			return m.held, e
		}
	}
	return m.held[:strings.IndexByte(m.held, c)+1], api.OK
}

func (m *model) rest() (string, api.Errno) {
	all := ""
	for m.empty = 0; ; {
		all += m.held
		m.taken += len(m.held)
		m.held = ""
		if e := m.read(); e == api.ErrChunkEnd {
			return all, api.OK
		} else if e != api.OK {
			return all, e
		}
	}
}

func (m *model) take(s string) {
	m.held = m.held[len(s):]
	m.taken += len(s)
}

// randomScript: short steps, and at times a long run of empty ones.
func randomScript(r *rand.Rand) []api.Step {
	var l []api.Step
	for range r.IntN(12) {
		data := make([]byte, r.IntN(6))
		for i := range data {
			data[i] = "abcX"[r.IntN(4)]
		}
		l = append(l, api.Step{Data: data, Fail: r.IntN(12) == 0})
		if r.IntN(6) == 0 {
			l = append(l, make([]api.Step, 95+r.IntN(10))...)
		}
	}
	return l
}

// P2.5, P2.6, P2.7, P2.9: calls by chance, held against the model; what is taken is a beginning of the script's bytes, and all at the end.
func TestBufferModel(t *testing.T) {
	r := rand.New(rand.NewPCG(2, 9))
	for range 20000 {
		l := randomScript(r)
		size := 1 + r.IntN(8)
		b := buffer(t, size, l...)
		m := &model{src: source(t, l), size: size}
		var out []byte
		for range r.IntN(14) {
			var p []byte
			var e, f api.Errno
			var want, what string
			switch n := r.IntN(size + 1); r.IntN(8) {
			case 0, 1:
				what = "Peek"
				p, e = b.Peek(n)
				want, f = m.peek(n)
			case 2, 3, 4:
				what = "Take"
				p, e = b.Take(n)
				want, f = m.peek(n)
				m.take(want)
			case 5, 6:
				what = "Until"
				p, e = b.Until('X')
				want, f = m.until('X')
				m.take(want)
			default:
				what = "Rest"
				p, e = b.Rest()
				want, f = m.rest()
			}
			if string(p) != want || e != f || b.Has() != len(m.held) || b.Taken() != m.taken {
				t.Fatalf("%s, size %d: %s: %q, %d, not %q, %d; Has %d, Taken %d", show(l), size, what, p, e, want, f, b.Has(), b.Taken())
			}
			if what != "Peek" {
				out = append(out, p...)
			}
		}
		beginning(t, l, b, out)
	}
}

// beginning: what was taken, and then what is left, are the script's bytes, and the last error says whether it fails.
func beginning(t *testing.T, l []api.Step, b *chunk.Buffer, out []byte) {
	t.Helper()
	all, failed := chunk.Bytes(l)
	if !bytes.HasPrefix(all, out) {
		t.Fatalf("%s: taken %q", show(l), out)
	}
	for {
		p, e := b.Rest()
		out = append(out, p...)
		if e == api.ErrChunkStuck {
			continue
		}
		if !bytes.Equal(out, all) || failed != (e == api.ErrChunkRead) || !failed && e != api.OK {
			t.Fatalf("%s: in all %q, %d", show(l), out, e)
		}
		return
	}
}

// recut: a script that is Same as l, cut anew, with few empty steps, and steps behind a failure.
func recut(r *rand.Rand, l []api.Step) []api.Step {
	data, fail := chunk.Bytes(l)
	var cuts []int
	for range r.IntN(10) {
		cuts = append(cuts, r.IntN(len(data)+1))
	}
	out := chunk.Cut(data, cuts, fail)
	if fail {
		out = append(out, step("more"), fails(""))
	}
	return out
}

// P2.10: the split does not matter, nor do sizes that allow what is asked.
func TestSplit(t *testing.T) {
	r := rand.New(rand.NewPCG(2, 10))
	for range 20000 {
		l := recut(r, randomScript(r))
		k := recut(r, l)
		if !chunk.Same(l, k) {
			t.Fatalf("%s and %s are not the same", show(l), show(k))
		}
		one, two := buffer(t, 5+r.IntN(4), l...), buffer(t, 5+r.IntN(90), k...)
		for range r.IntN(14) {
			var p, q []byte
			var e, f api.Errno
			switch n := r.IntN(6); r.IntN(8) {
			case 0, 1:
				p, e = one.Peek(n)
				q, f = two.Peek(n)
			case 2, 3, 4:
				p, e = one.Take(n)
				q, f = two.Take(n)
			case 5, 6:
				p, e = one.Until('X')
				q, f = two.Until('X')
			default:
				p, e = one.Rest()
				q, f = two.Rest()
			}
			if e == api.ErrChunkFull || f == api.ErrChunkFull {
				break
			}
			if !bytes.Equal(p, q) || e != f {
				t.Fatalf("%s and %s: %q, %d; %q, %d", show(l), show(k), p, e, q, f)
			}
		}
	}
}
