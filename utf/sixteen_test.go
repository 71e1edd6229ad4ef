package utf_test

import (
	"slices"
	"testing"
	"unicode/utf16"

	"sieve/utf"
)

// P1.8: the units of every character, and of what is none.
func TestSixteen(t *testing.T) {
	for _, c := range []struct {
		r    rune
		want []uint16
	}{{0, []uint16{0}}, {'a', []uint16{'a'}}, {0xD7FF, []uint16{0xD7FF}}, {0xE000, []uint16{0xE000}}, {0xFFFF, []uint16{0xFFFF}}, {0x10000, []uint16{0xD800, 0xDC00}}, {0x103FF, []uint16{0xD800, 0xDFFF}}, {0x10400, []uint16{0xD801, 0xDC00}}, {0x1F600, []uint16{0xD83D, 0xDE00}}, {0x10FFFF, []uint16{0xDBFF, 0xDFFF}}} {
		if got := utf.Sixteen(c.r); !slices.Equal(got, c.want) {
			t.Errorf("Sixteen(%x): %x", c.r, got)
		}
	}
	for _, c := range noChars {
		if got := utf.Sixteen('a', c, 0x1F600); !slices.Equal(got, []uint16{'a', 0xFFFD, 0xD83D, 0xDE00}) {
			t.Errorf("Sixteen(a, %x, 1f600): %x", c, got)
		}
	}
	if len(utf.Sixteen()) != 0 {
		t.Error("Sixteen of nothing")
	}
}

// P1.8: pairs, and units that stand alone.
func TestFromSixteen(t *testing.T) {
	const bad = 0xFFFD
	for _, c := range []struct {
		u    []uint16
		want []rune
	}{
		{nil, nil},
		{[]uint16{'a', 0xFFFF, 0xD7FF, 0xE000}, []rune{'a', 0xFFFF, 0xD7FF, 0xE000}},
		{[]uint16{0xD83D, 0xDE00}, []rune{0x1F600}},
		{[]uint16{0xD800, 0xDC00, 0xDBFF, 0xDFFF}, []rune{0x10000, 0x10FFFF}},
		{[]uint16{0xD83D}, []rune{bad}},
		{[]uint16{0xDE00}, []rune{bad}},
		{[]uint16{0xDE00, 0xD83D}, []rune{bad, bad}},
		{[]uint16{0xD83D, 0xD83D, 0xDE00}, []rune{bad, 0x1F600}},
		{[]uint16{0xD83D, 0xDE00, 0xDE00}, []rune{0x1F600, bad}},
		{[]uint16{0xDBFF, 'a', 0xDC00, 'b'}, []rune{bad, 'a', bad, 'b'}},
		{[]uint16{0xD83D, 0xE000}, []rune{bad, 0xE000}},
		{[]uint16{0xD7FF, 0xDC00}, []rune{0xD7FF, bad}},
	} {
		if got := utf.FromSixteen(c.u...); !slices.Equal(got, c.want) {
			t.Errorf("FromSixteen(%x): %x, want %x", c.u, got, c.want)
		}
	}
	units := []uint16{0, 'a', 0xD7FF, 0xD800, 0xD801, 0xDBFF, 0xDC00, 0xDC01, 0xDFFF, 0xE000, 0xFFFD, 0xFFFF}
	for _, a := range units {
		for _, b := range units {
			for _, c := range units {
				u := []uint16{a, b, c}
				if got := utf.FromSixteen(u...); !slices.Equal(got, utf16.Decode(u)) {
					t.Errorf("FromSixteen(%x): %x", u, got)
				}
			}
		}
	}
}

// P1.9: FromSixteen undoes Sixteen, of characters.
func TestSixteenThereAndBack(t *testing.T) {
	for c := rune(0); c <= 0x10FFFF; c++ {
		if c >= 0xD800 && c <= 0xDFFF {
			continue
		}
		if got := utf.FromSixteen(utf.Sixteen(c)...); len(got) != 1 || got[0] != c {
			t.Fatalf("U+%04X: %x", c, got)
		}
	}
	if got := utf.FromSixteen(utf.Sixteen(listed...)...); !slices.Equal(got, listed) {
		t.Errorf("%x", got)
	}
}
