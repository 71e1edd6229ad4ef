package utf_test

import (
	"slices"
	"testing"

	"sieve/api"
	"sieve/utf"
)

// fed: all that a decoder tells of pieces; it also holds Held against Tail.
func fed(t *testing.T, pieces ...[]byte) []rune {
	t.Helper()
	d := utf.New()
	var out []rune
	var all []byte
	for _, p := range pieces {
		l, e := d.Feed(p)
		if e != api.OK {
			t.Fatalf("Feed(%x): %d", p, e)
		}
		out = append(out, l...)
		all = append(all, p...)
		tail := utf.Tail(all)
		if d.Held() != tail {
			t.Fatalf("%x: Held %d, Tail %d", all, d.Held(), tail)
		}
		if sure := utf.Runes(all[:len(all)-tail]); !slices.Equal(out, sure) {
			t.Fatalf("%x: told %x, sure are %x", all, out, sure)
		}
	}
	held := d.Held()
	l, e := d.End()
	if e != api.OK || len(l) != min(held, 1) || len(l) == 1 && l[0] != 0xFFFD || d.Held() != 0 {
		t.Fatalf("End behind %d held: %x, %d; Held %d", held, l, e, d.Held())
	}
	return append(out, l...)
}

// P1.4: the chapter's example.
func TestDecoderExample(t *testing.T) {
	d := utf.New()
	if d == nil || d.Held() != 0 {
		t.Fatal("New")
	}
	for i, c := range []byte{0xE2, 0x82} {
		if l, e := d.Feed([]byte{c}); len(l) != 0 || e != api.OK || d.Held() != i+1 {
			t.Errorf("Feed(%x): %x, %d", c, l, e)
		}
	}
	if l, e := d.Feed([]byte{0xAC}); !slices.Equal(l, []rune{0x20AC}) || e != api.OK || d.Held() != 0 {
		t.Errorf("Feed(ac): %x, %d", l, e)
	}
	if l, e := d.Feed([]byte{0xE2}); len(l) != 0 || e != api.OK || d.Held() != 1 {
		t.Errorf("Feed(e2): %x, %d", l, e)
	}
	if l, e := d.End(); !slices.Equal(l, []rune{0xFFFD}) || e != api.OK || d.Held() != 0 {
		t.Errorf("End: %x, %d", l, e)
	}
}

// P1.4: what is held back and turns out to be wrong is one U+FFFD.
func TestDecoderWrong(t *testing.T) {
	d := utf.New()
	d.Feed([]byte{0xF0, 0x9F, 0x98})
	if l, e := d.Feed([]byte{'a', 0xE2}); !slices.Equal(l, []rune{0xFFFD, 'a'}) || e != api.OK || d.Held() != 1 {
		t.Errorf("Feed: %x, %d, Held %d", l, e, d.Held())
	}
	if l, e := d.Feed([]byte{0xE2, 0x82}); !slices.Equal(l, []rune{0xFFFD}) || e != api.OK || d.Held() != 2 {
		t.Errorf("Feed: %x, %d, Held %d", l, e, d.Held())
	}
}

// P1.4: behind End it is over, whatever it held.
func TestDecoderOver(t *testing.T) {
	for _, s := range []string{"", "a", "\xe2\x82", "\xff"} {
		d := utf.New()
		d.Feed([]byte(s))
		d.End()
		for range 2 {
			if l, e := d.Feed([]byte("a\xe2")); len(l) != 0 || e != api.ErrOver || d.Held() != 0 {
				t.Errorf("%x: Feed: %x, %d, Held %d", s, l, e, d.Held())
			}
			if l, e := d.Feed(nil); len(l) != 0 || e != api.ErrOver {
				t.Errorf("%x: Feed(nil): %x, %d", s, l, e)
			}
			if l, e := d.End(); len(l) != 0 || e != api.ErrOver || d.Held() != 0 {
				t.Errorf("%x: End: %x, %d", s, l, e)
			}
		}
	}
	d := utf.New()
	if l, e := d.End(); len(l) != 0 || e != api.OK {
		t.Errorf("End of one that has been fed nothing: %x, %d", l, e)
	}
}

// P1.4, R5: a decoder that no call made.
func TestDecoderUnmade(t *testing.T) {
	for _, d := range []*utf.Decoder{nil, {}} {
		for range 2 {
			if l, e := d.Feed([]byte("a\xe2")); len(l) != 0 || e != api.ErrMade || d.Held() != 0 {
				t.Errorf("Feed: %x, %d", l, e)
			}
			if l, e := d.End(); len(l) != 0 || e != api.ErrMade || d.Held() != 0 {
				t.Errorf("End: %x, %d", l, e)
			}
		}
	}
}

// P1.5: in any pieces, empty ones too.
func TestDecoderPieces(t *testing.T) {
	some(func(b []byte) {
		want := utf.Runes(b)
		for size := 1; size <= max(len(b), 1); size++ {
			pieces := [][]byte{nil}
			for at := 0; at < len(b); at += size {
				pieces = append(pieces, b[at:min(at+size, len(b))], nil)
			}
			if got := fed(t, pieces...); !slices.Equal(got, want) {
				t.Fatalf("%x by %d: %x", b, size, got)
			}
		}
		for i := 0; i <= len(b); i++ {
			for j := i; j <= len(b); j++ {
				if got := fed(t, b[:i], b[i:j], b[j:]); !slices.Equal(got, want) {
					t.Fatalf("%x at %d, %d: %x", b, i, j, got)
				}
			}
		}
	})
	every(edges, 3, func(b []byte) {
		if got := fed(t, b[:1], b[1:2], b[2:]); !slices.Equal(got, utf.Runes(b)) {
			t.Fatalf("%x byte by byte: %x", b, got)
		}
	})
}

// R4: two decoders know nothing of each other, not even a copy of one.
func TestDecodersApart(t *testing.T) {
	a, b := utf.New(), utf.New()
	a.Feed([]byte{0xE2, 0x82})
	c := *a
	if l, e := b.Feed([]byte{0xAC}); !slices.Equal(l, []rune{0xFFFD}) || e != api.OK {
		t.Errorf("another one: %x, %d", l, e)
	}
	c.Feed([]byte{'x', 0xF0, 0x9F, 0x98})
	if l, e := a.Feed([]byte{0xAC}); !slices.Equal(l, []rune{0x20AC}) || e != api.OK {
		t.Errorf("beside a copy: %x, %d", l, e)
	}
}
