package utf_test

import (
	"bytes"
	"iter"
	"slices"
	"testing"

	"sieve/utf"
)

const sample = "a\xe2\x82é\xff€"

// pairs: what an iterator tells, up to so many.
func pairs(s iter.Seq2[int, rune], most int) []told {
	var out []told
	for at, r := range s {
		if len(out) == most {
			break
		}
		out = append(out, told{at: at, r: r})
	}
	return out
}

// P1.1, P1.8, R3: iterators may be left early, taken again, and nested.
func TestIteratorsAgain(t *testing.T) {
	for _, tell := range []func([]byte) iter.Seq2[int, rune]{utf.All, utf.Back} {
		s := tell([]byte(sample))
		whole := pairs(s, 99)
		for n := 0; n <= len(whole); n++ {
			if got := pairs(s, n); !slices.Equal(got, whole[:n]) {
				t.Errorf("left behind %d: %v", n, got)
			}
		}
		k := 0
		for at, r := range s {
			if inner := pairs(s, 99); !slices.Equal(inner, whole) {
				t.Errorf("nested: %v", inner)
			}
			if whole[k] != (told{at: at, r: r}) {
				t.Errorf("around: %d, %x", at, r)
			}
			k++
		}
		if got := pairs(tell(nil), 99); len(got) != 0 {
			t.Errorf("of nil: %v", got)
		}
	}
}

// R3: an iterator tells what was there when it was asked for.
func TestIteratorsKeep(t *testing.T) {
	for _, tell := range []func([]byte) iter.Seq2[int, rune]{utf.All, utf.Back} {
		want := pairs(tell([]byte(sample)), 99)
		b := []byte(sample)
		s := tell(b)
		clear(b)
		if got := pairs(s, 99); !slices.Equal(got, want) {
			t.Errorf("changed ahead of the loop: %v", got)
		}
		b = []byte(sample)
		var got []told
		for at, r := range tell(b) {
			got = append(got, told{at: at, r: r})
			clear(b)
		}
		if !slices.Equal(got, want) {
			t.Errorf("changed within the loop: %v", got)
		}
	}
}

// R3: what is handed in stays, with the room behind its end; a decoder keeps none of it.
func TestNothingChanged(t *testing.T) {
	room := []byte(sample + "\xf0\x9f\x98room")
	was := bytes.Clone(room)
	b := room[:len(sample)+3]
	d := utf.New()
	d.Feed(b)
	d.Feed(b[:0])
	utf.Runes(b)
	utf.Count(b)
	utf.Valid(b)
	utf.Tail(b)
	utf.Place(b, 3)
	utf.Cut(b, 3)
	pairs(utf.All(b), 99)
	pairs(utf.Back(b), 99)
	if !bytes.Equal(room, was) {
		t.Errorf("changed: %x", room)
	}
	clear(room)
	if l, e := d.Feed([]byte{0x80}); e != 0 || !slices.Equal(l, []rune{0x1F600}) {
		t.Errorf("kept: %x, %d", l, e)
	}
	runes := []rune{'a', -1, 0xD800, 0x1F600}
	utf.Bytes(runes[:2]...)
	utf.Sixteen(runes[:2]...)
	if !slices.Equal(runes, []rune{'a', -1, 0xD800, 0x1F600}) {
		t.Errorf("changed: %x", runes)
	}
	units := []uint16{0xD83D, 'a', 0xDE00}
	utf.FromSixteen(units[:1]...)
	if !slices.Equal(units, []uint16{0xD83D, 'a', 0xDE00}) {
		t.Errorf("changed: %x", units)
	}
}

// R3: an answer stays as it is, whatever comes later.
func TestAnswersStay(t *testing.T) {
	d := utf.New()
	one, _ := d.Feed([]byte("abc\xe2"))
	two, _ := d.Feed([]byte("\x82\xacdef"))
	_ = append(one, 'x', 'y', 'z')
	three, _ := d.Feed([]byte("ghi"))
	if string(one) != "abc" || string(two) != "€def" || string(three) != "ghi" {
		t.Errorf("%q, %q, %q", string(one), string(two), string(three))
	}
}
