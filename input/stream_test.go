package input_test

import (
	"slices"
	"testing"

	"sieve/api"
	"sieve/input"
	"sieve/utf"
)

// held: how many bytes at the end are held back, by the chapter's words.
func held(b []byte) int {
	n := utf.Tail(b)
	if left := len(b) - n; left > 0 && b[left-1] == '\r' {
		n++
	}
	return n
}

// track is what a stream has to tell of bytes, worked out ahead for each number of bytes that may have been fed.
type track struct {
	whole []api.Cell
	end   api.Place
	told  []int // how many cells are sure
	next  []api.Place
}

// follow: the track of bytes.
func follow(b []byte) track {
	var k track
	k.whole, k.end = model(b)
	for n := range len(b) + 1 {
		sure, next := model(b[:n-held(b[:n])])
		k.told, k.next = append(k.told, len(sure)), append(k.next, next)
	}
	return k
}

// fed: feeds bytes cut at these places and ends, and holds each answer, and the place behind it, against their track.
func fed(t *testing.T, b []byte, k track, cuts ...int) {
	t.Helper()
	s := input.New()
	from := 0
	for _, to := range append(cuts, len(b)) {
		want := k.whole[k.told[from]:k.told[to]]
		if l, e := s.Feed(b[from:to]); e != api.OK || !slices.Equal(l, want) {
			t.Fatalf("%x, then %x: %v, %d, want %v", b[:from], b[from:to], l, e, want)
		}
		if s.Place() != k.next[to] {
			t.Fatalf("%x, then %x: Place %v, want %v", b[:from], b[from:to], s.Place(), k.next[to])
		}
		from = to
	}
	l, e := s.End()
	if e != api.OK || !slices.Equal(l, k.whole[k.told[len(b)]:]) || s.Place() != k.end {
		t.Fatalf("%x: End: %v, %d, Place %v", b, l, e, s.Place())
	}
}

// P3.3: the chapter's example.
func TestStreamExample(t *testing.T) {
	s := input.New()
	if s == nil || s.Place() != (api.Place{Byte: 0, Line: 1, Col: 1}) {
		t.Fatal("New")
	}
	steps := []struct {
		b     string
		want  []api.Cell
		place api.Place
	}{
		{"a\r", []api.Cell{cell('a', 0, 1, 1)}, api.Place{Byte: 1, Line: 1, Col: 2}},
		{"\n", []api.Cell{cell('\n', 1, 1, 2)}, api.Place{Byte: 3, Line: 2, Col: 1}},
		{"\r", nil, api.Place{Byte: 3, Line: 2, Col: 1}},
	}
	for _, c := range steps {
		if l, e := s.Feed([]byte(c.b)); !slices.Equal(l, c.want) || e != api.OK || s.Place() != c.place {
			t.Errorf("Feed(%q): %v, %d, Place %v", c.b, l, e, s.Place())
		}
	}
	if l, e := s.End(); !slices.Equal(l, []api.Cell{cell('\n', 3, 2, 1)}) || e != api.OK || s.Place() != (api.Place{Byte: 4, Line: 3, Col: 1}) {
		t.Errorf("End: %v, %d, Place %v", l, e, s.Place())
	}
}

// P3.3: a CR is held till the next rune is seen: through empty pieces, and through a character's first bytes.
func TestStreamHoldsNewline(t *testing.T) {
	for _, c := range []struct {
		pieces []string
		want   [][]api.Cell // the last one: End's
	}{
		{[]string{"\r", "", "\n"}, [][]api.Cell{nil, nil, {cell('\n', 0, 1, 1)}, nil}},
		{[]string{"\r", "", ""}, [][]api.Cell{nil, nil, nil, {cell('\n', 0, 1, 1)}}},
		{[]string{"\r", "x"}, [][]api.Cell{nil, {cell('\n', 0, 1, 1), cell('x', 1, 2, 1)}, nil}},
		{[]string{"\r", "\r", "\n"}, [][]api.Cell{nil, {cell('\n', 0, 1, 1)}, {cell('\n', 1, 2, 1)}, nil}},
		{[]string{"\r\n", "\n"}, [][]api.Cell{{cell('\n', 0, 1, 1)}, {cell('\n', 2, 2, 1)}, nil}},
		{[]string{"\r", "\n\r", "\n"}, [][]api.Cell{nil, {cell('\n', 0, 1, 1)}, {cell('\n', 2, 2, 1)}, nil}},
		{[]string{"\n", "\r", "\n"}, [][]api.Cell{{cell('\n', 0, 1, 1)}, nil, {cell('\n', 1, 2, 1)}, nil}},
		{[]string{"\r\xf0\x9f", "\x98", "\x80"}, [][]api.Cell{nil, nil, {cell('\n', 0, 1, 1), cell(0x1F600, 1, 2, 1)}, nil}},
		{[]string{"\r", "\xf0\x9f\x98"}, [][]api.Cell{nil, nil, {cell('\n', 0, 1, 1), cell(0xFFFD, 1, 2, 1)}}},
		{[]string{"\r\xe2", "\n"}, [][]api.Cell{nil, {cell('\n', 0, 1, 1), cell(0xFFFD, 1, 2, 1), cell('\n', 2, 2, 2)}, nil}},
		{[]string{"\xe2\x82", "\r", "\n"}, [][]api.Cell{nil, {cell(0xFFFD, 0, 1, 1)}, {cell('\n', 2, 1, 2)}, nil}},
		{[]string{"\xff\r", "\n"}, [][]api.Cell{{cell(0xFFFD, 0, 1, 1)}, {cell('\n', 1, 1, 2)}, nil}},
		{[]string{"\x00\r"}, [][]api.Cell{{cell(0xFFFD, 0, 1, 1)}, {cell('\n', 1, 1, 2)}}},
		{[]string{"\xe2\x82\r\xc3\r", "\n"}, [][]api.Cell{{cell(0xFFFD, 0, 1, 1), cell('\n', 2, 1, 2), cell(0xFFFD, 3, 2, 1)}, {cell('\n', 4, 2, 2)}, nil}},
	} {
		s := input.New()
		for n, p := range c.pieces {
			if l, e := s.Feed([]byte(p)); !slices.Equal(l, c.want[n]) || e != api.OK {
				t.Errorf("%q, piece %d: %v, %d", c.pieces, n, l, e)
			}
		}
		if l, e := s.End(); !slices.Equal(l, c.want[len(c.pieces)]) || e != api.OK {
			t.Errorf("%q, End: %v, %d", c.pieces, l, e)
		}
	}
}

// P3.3, P3.4: in any pieces, empty ones too.
func TestStreamPieces(t *testing.T) {
	some(func(b []byte) {
		k := follow(b)
		for size := 1; size <= len(b); size++ {
			var cuts []int
			for at := 0; at < len(b); at += size {
				cuts = append(cuts, at, at)
			}
			fed(t, b, k, cuts...)
		}
		for i := 0; i <= len(b); i++ {
			fed(t, b, k, i)
			if len(b) == 5 { // of these there are too many for all cuts in three
				continue
			}
			for j := i; j <= len(b); j++ {
				fed(t, b, k, i, j)
			}
		}
	})
}

// P3.4: all that is told, one behind the other, is what Read tells.
func TestStreamIsRead(t *testing.T) {
	for _, s := range long {
		b := []byte(s)
		for cuts := range 1 << min(len(b), 12) {
			st := input.New()
			var got []api.Cell
			from := 0
			for at := range b {
				if cuts>>at&1 == 1 {
					l, _ := st.Feed(b[from:at])
					got = append(got, l...)
					from = at
				}
			}
			l, _ := st.Feed(b[from:])
			got = append(got, l...)
			l, _ = st.End()
			got = append(got, l...)
			if !slices.Equal(got, input.Read(b)) {
				t.Fatalf("%q cut by %b: %v", s, cuts, got)
			}
		}
	}
}

// P3.3: behind End it is over, whatever it held; its place stays behind the last cell.
func TestStreamOver(t *testing.T) {
	for _, b := range []string{"", "a", "\r", "a\n", "\xe2\x82", "\r\xf0\x9f\x98"} {
		s := input.New()
		s.Feed([]byte(b))
		s.End()
		_, place := model([]byte(b))
		for range 2 {
			if l, e := s.Feed([]byte("a\r\xe2")); len(l) != 0 || e != api.ErrOver || s.Place() != place {
				t.Errorf("%q: Feed: %v, %d, Place %v", b, l, e, s.Place())
			}
			if l, e := s.Feed(nil); len(l) != 0 || e != api.ErrOver || s.Place() != place {
				t.Errorf("%q: Feed(nil): %v, %d, Place %v", b, l, e, s.Place())
			}
			if l, e := s.End(); len(l) != 0 || e != api.ErrOver || s.Place() != place {
				t.Errorf("%q: End: %v, %d, Place %v", b, l, e, s.Place())
			}
		}
	}
	if l, e := input.New().End(); len(l) != 0 || e != api.OK {
		t.Errorf("End of one that has been fed nothing: %v, %d", l, e)
	}
}

// P3.3, R5: a stream that no call made.
func TestStreamUnmade(t *testing.T) {
	for _, s := range []*input.Stream{nil, {}} {
		for range 2 {
			if l, e := s.Feed([]byte("a\r\n")); len(l) != 0 || e != api.ErrMade || s.Place() != (api.Place{}) {
				t.Errorf("Feed: %v, %d, Place %v", l, e, s.Place())
			}
			if l, e := s.End(); len(l) != 0 || e != api.ErrMade || s.Place() != (api.Place{}) {
				t.Errorf("End: %v, %d, Place %v", l, e, s.Place())
			}
		}
	}
}

// R4: two streams know nothing of each other, not even a copy of one.
func TestStreamsApart(t *testing.T) {
	a, b := input.New(), input.New()
	a.Feed([]byte("x\r\xe2\x82"))
	c := *a
	if l, e := b.Feed([]byte("\n")); !slices.Equal(l, []api.Cell{cell('\n', 0, 1, 1)}) || e != api.OK {
		t.Errorf("another one: %v, %d", l, e)
	}
	c.Feed([]byte("zzz\r\xf0\x9f\x98"))
	c.End()
	if a.Place() != (api.Place{Byte: 1, Line: 1, Col: 2}) {
		t.Errorf("beside a copy: Place %v", a.Place())
	}
	if l, e := a.Feed([]byte("\xac")); !slices.Equal(l, []api.Cell{cell('\n', 1, 1, 2), cell('€', 2, 2, 1)}) || e != api.OK {
		t.Errorf("beside a copy: %v, %d", l, e)
	}
}
