package utf_test

import (
	"bytes"
	"math"
	"slices"
	"testing"
	"unicode/utf8"

	"sieve/api"
	"sieve/utf"
)

// beginnings: the good beginnings by the chapter's own words: whatever some
// character's bytes begin with, or all of these (then true).
func beginnings() map[string]bool {
	good := map[string]bool{}
	for c := rune(0); c <= 0x10FFFF; c++ {
		if c >= 0xD800 && c <= 0xDFFF {
			continue
		}
		s := string(c)
		for n := 1; n < len(s); n++ {
			good[s[:n]] = false
		}
		good[s] = true
	}
	return good
}

var good = beginnings()

// told is one that All tells, and whether its bytes were wrong; open: it is a
// good beginning that the end of the bytes cut off.
type told struct {
	at    int
	r     rune
	wrong bool
	open  bool
}

// read: reading bytes, by the chapter's own words.
func read(b []byte) []told {
	var out []told
	for at := 0; at < len(b); {
		n := 0
		for k := 1; k <= 4 && at+k <= len(b); k++ {
			if _, ok := good[string(b[at:at+k])]; ok {
				n = k
			}
		}
		if n > 0 && good[string(b[at:at+n])] {
			r, _ := utf8.DecodeRune(b[at : at+n])
			out = append(out, told{at: at, r: r})
		} else {
			out = append(out, told{at: at, r: 0xFFFD, wrong: true, open: n > 0 && at+n == len(b)})
		}
		at += max(n, 1)
	}
	return out
}

// edges: bytes on both sides of every bound of the encoding.
var edges = []byte{0x00, 0x61, 0x7F, 0x80, 0x8F, 0x90, 0x9F, 0xA0, 0xBF, 0xC0, 0xC1, 0xC2, 0xDF, 0xE0, 0xE1, 0xEC, 0xED, 0xEE, 0xEF, 0xF0, 0xF1, 0xF3, 0xF4, 0xF5, 0xFF}

// few: one of each class alone, for longer inputs.
var few = []byte{0x61, 0x80, 0x9F, 0xBF, 0xC3, 0xE2, 0xED, 0xF0, 0xF4, 0xFF}

// every: calls f with all lists of n bytes out of set.
func every(set []byte, n int, f func([]byte)) {
	b := make([]byte, n)
	var fill func(int)
	fill = func(k int) {
		if k == n {
			f(b)
			return
		}
		for _, c := range set {
			b[k] = c
			fill(k + 1)
		}
	}
	fill(0)
}

// inputs: calls f with many bytes: all of one or two, all of up to four at the
// edges, longer ones of few.
func inputs(f func([]byte)) {
	all := make([]byte, 256)
	for i := range all {
		all[i] = byte(i)
	}
	f(nil)
	f([]byte{})
	every(all, 1, f)
	every(all, 2, f)
	every(edges, 3, f)
	every(edges, 4, f)
	every(few, 5, f)
	f([]byte("plain text, é, €, \U0001F600\uFFFD"))
}

// some: fewer of them, for what is tried in many ways each.
func some(f func([]byte)) {
	f(nil)
	for n := 1; n <= 4; n++ {
		every(few, n, f)
	}
	f([]byte("a\xffé\xe2\x82€\xf0\x9f\x98\xf0\x9f\x98\x80\xed\xa0\x80\xc0\xaf\xf4\x90b\xf0\x9f"))
}

var listed = []rune{0, 'a', 0x7F, 0x80, 0x7FF, 0x800, 0xD7FF, 0xE000, 0xFFFD, 0xFFFE, 0xFFFF, 0x10000, 0x103FF, 0x10400, 0x1F600, 0x10FFFF}

var noChars = []rune{math.MinInt32, -0xFFFD, -1, 0xD800, 0xDBFF, 0xDC00, 0xDFFF, 0x110000, 0x200000, math.MaxInt32}

// P1.1: the chapter's examples.
func TestRunesExamples(t *testing.T) {
	const bad = 0xFFFD
	for _, c := range []struct {
		b    string
		want []rune
	}{
		{"", nil},
		{"\x61\xff\xe2\x82\x62", []rune{'a', bad, bad, 'b'}},
		{"\xf0\x9f\x98\x80", []rune{0x1F600}},
		{"\xf0\x80\x80", []rune{bad, bad, bad}},
		{"\xed\xa0\x80", []rune{bad, bad, bad}},
		{"\xf4\x90\x80\x80", []rune{bad, bad, bad, bad}},
		{"\xc3", []rune{bad}},
		{"\xe2\x82\x61", []rune{bad, 'a'}},
		{"\xc0\xaf", []rune{bad, bad}},
		{"\xf0\x9f\x98", []rune{bad}},
		{"\xf0\x9f\x98\xe2\x82", []rune{bad, bad}},
		{"\xef\xbf\xbd", []rune{bad}},
		{"\xef\xbb\xbfa", []rune{0xFEFF, 'a'}},
	} {
		if got := utf.Runes([]byte(c.b)); !slices.Equal(got, c.want) {
			t.Errorf("Runes(%x): %x, want %x", c.b, got, c.want)
		}
	}
}

// P1.1: Runes, All, Count, Valid against reading as the chapter tells it.
func TestReading(t *testing.T) {
	inputs(func(b []byte) {
		want := read(b)
		k, valid := 0, true
		for at, r := range utf.All(b) {
			if k >= len(want) || want[k].at != at || want[k].r != r {
				t.Fatalf("All(%x): %d, %x as the %d-th", b, at, r, k)
			}
			valid = valid && !want[k].wrong
			k++
		}
		if k != len(want) || utf.Count(b) != k {
			t.Fatalf("All(%x): %d told, Count %d, want %d", b, k, utf.Count(b), len(want))
		}
		l := utf.Runes(b)
		if !slices.EqualFunc(l, want, func(r rune, w told) bool { return r == w.r }) {
			t.Fatalf("Runes(%x): %x", b, l)
		}
		if utf.Valid(b) != valid {
			t.Fatalf("Valid(%x): %v", b, !valid)
		}
	})
}

// P1.1: a U+FFFD by its own bytes is right, also beside one that is wrong.
func TestValidReplacement(t *testing.T) {
	for s, want := range map[string]bool{"": true, "\uFFFD": true, "a\uFFFDb": true, "\uFFFD\xff": false, "\xff\uFFFD": false, "\xef\xbf": false, "é\xed\xbf\xbf": false} {
		if utf.Valid([]byte(s)) != want {
			t.Errorf("Valid(%x): %v", s, !want)
		}
	}
}

// P1.1: every place from 0 to Count, and what lies beyond on both sides.
func TestPlace(t *testing.T) {
	for _, c := range []struct {
		n, at int
		e     api.Errno
	}{{0, 0, api.OK}, {1, 2, api.OK}, {2, 3, api.OK}, {3, 0, api.ErrUtfPlace}, {-1, 0, api.ErrUtfPlace}, {math.MinInt, 0, api.ErrUtfPlace}, {math.MaxInt, 0, api.ErrUtfPlace}} {
		if at, e := utf.Place([]byte{0xC3, 0xA9, 0x62}, c.n); at != c.at || e != c.e {
			t.Errorf("Place(%d): %d, %d", c.n, at, e)
		}
	}
	some(func(b []byte) {
		want := read(b)
		for n := -1; n <= len(want)+1; n++ {
			at, e := utf.Place(b, n)
			switch {
			case n < 0 || n > len(want):
				if at != 0 || e != api.ErrUtfPlace {
					t.Fatalf("Place(%x, %d): %d, %d", b, n, at, e)
				}
			case n == len(want):
				if at != len(b) || e != api.OK {
					t.Fatalf("Place(%x, %d): %d, %d", b, n, at, e)
				}
			case at != want[n].at || e != api.OK:
				t.Fatalf("Place(%x, %d): %d, %d", b, n, at, e)
			}
		}
	})
	if api.ErrUtfPlace != 10 {
		t.Error("ErrUtfPlace")
	}
}

// P1.2: the bytes of every character, and of what is none.
func TestBytesWidth(t *testing.T) {
	for c := rune(0); c <= 0x10FFFF; c++ {
		w := 4
		switch {
		case c < 0x80:
			w = 1
		case c < 0x800:
			w = 2
		case c < 0x10000: // surrogates too: three bytes, those of U+FFFD
			w = 3
		}
		want := utf8.AppendRune(nil, c)
		if got := utf.Bytes(c); !bytes.Equal(got, want) || len(got) != w || utf.Width(c) != w {
			t.Fatalf("U+%04X: %x, Width %d", c, got, utf.Width(c))
		}
	}
	for _, c := range noChars {
		if got := utf.Bytes('a', c, 'b'); string(got) != "a\xef\xbf\xbdb" || utf.Width(c) != 3 {
			t.Errorf("%x: %x, Width %d", c, got, utf.Width(c))
		}
	}
	if got := utf.Bytes(listed...); string(got) != string(listed) {
		t.Errorf("Bytes: %x", got)
	}
	if len(utf.Bytes()) != 0 || len(utf.Bytes([]rune(nil)...)) != 0 {
		t.Error("Bytes of nothing")
	}
}

// P1.2: Mend.
func TestMend(t *testing.T) {
	for s, want := range map[string]string{"": "", "aé€": "aé€", "\uFFFD": "\uFFFD", "\xff": "\uFFFD", "a\xe2\x82b": "a\uFFFDb", "a\xe2\x82": "a\uFFFD", "é\uFFFD\xf0\x80\x80é": "é\uFFFD\uFFFD\uFFFD\uFFFDé"} {
		if got := utf.Mend(s); got != want {
			t.Errorf("Mend(%x): %x", s, got)
		}
	}
	inputs(func(b []byte) {
		var want []rune
		for _, w := range read(b) {
			want = append(want, w.r)
		}
		if got := utf.Mend(string(b)); got != string(want) {
			t.Fatalf("Mend(%x): %x", b, got)
		}
	})
}

// P1.3: Tail.
func TestTail(t *testing.T) {
	for s, want := range map[string]int{"": 0, "\xe2\x82": 2, "\x61": 0, "\xe2\x82\x61": 0, "\xf0\x9f\x98": 3, "\xc0": 0, "\xc3": 1, "\xe2\x82\xe2": 1, "\xf0\x80": 0, "\xed\xa0": 0, "\xf4\x90": 0, "\xe2\x82\xac": 0, "\xf5": 0, "aaaa\xe2": 1, "\xf0\x9f\x98\x80\xf0\x9f\x98": 3} {
		if got := utf.Tail([]byte(s)); got != want {
			t.Errorf("Tail(%x): %d, want %d", s, got, want)
		}
	}
	inputs(func(b []byte) {
		want := 0
		if l := read(b); len(l) > 0 && l[len(l)-1].open {
			want = len(b) - l[len(l)-1].at
		}
		if got := utf.Tail(b); got != want {
			t.Fatalf("Tail(%x): %d, want %d", b, got, want)
		}
	})
}

// P1.8: Back is All from its end.
func TestBack(t *testing.T) {
	inputs(func(b []byte) {
		want := read(b)
		k := len(want)
		for at, r := range utf.Back(b) {
			k--
			if k < 0 || want[k].at != at || want[k].r != r {
				t.Fatalf("Back(%x): %d, %x as the %d-th", b, at, r, k)
			}
		}
		if k != 0 {
			t.Fatalf("Back(%x): %d are missing", b, k)
		}
	})
}

// P1.8, P1.9: Cut, Cut of Cut, and the runes of the two parts.
func TestCut(t *testing.T) {
	for _, c := range []struct{ n, want int }{{math.MinInt, 0}, {-1, 0}, {0, 0}, {1, 1}, {2, 1}, {3, 1}, {4, 4}, {5, 4}, {6, 6}, {7, 6}, {math.MaxInt, 6}} {
		if got := utf.Cut([]byte("a€\xe2\x82"), c.n); got != c.want {
			t.Errorf("Cut(%d): %d, want %d", c.n, got, c.want)
		}
	}
	if utf.Cut(nil, 5) != 0 || utf.Cut(nil, 0) != 0 || utf.Cut(nil, -5) != 0 {
		t.Error("Cut of nothing")
	}
	inputs(func(b []byte) {
		places := map[int]bool{len(b): true}
		for _, w := range read(b) {
			places[w.at] = true
		}
		want := 0
		for n := -1; n <= len(b)+1; n++ {
			if places[n] {
				want = n
			}
			got := utf.Cut(b, n)
			if got != want || utf.Cut(b, got) != got {
				t.Fatalf("Cut(%x, %d): %d, want %d", b, n, got, want)
			}
			if parts := append(utf.Runes(b[:got]), utf.Runes(b[got:])...); !slices.Equal(parts, utf.Runes(b)) {
				t.Fatalf("Cut(%x, %d): the parts' runes are %x", b, n, parts)
			}
		}
	})
}

// P1.6: there and back.
func TestThereAndBack(t *testing.T) {
	mixed := append(append([]rune{}, listed...), noChars...)
	for _, a := range mixed {
		for _, b := range mixed {
			l := []rune{a, b}
			made := utf.Bytes(l...)
			want := []rune(string(l))
			if got := utf.Runes(made); !slices.Equal(got, want) || !utf.Valid(made) {
				t.Errorf("%x: %x, %x", l, made, got)
			}
		}
	}
	inputs(func(b []byte) {
		if same := bytes.Equal(utf.Bytes(utf.Runes(b)...), b); same != utf.Valid(b) {
			t.Fatalf("%x: the same %v, valid %v", b, same, !same)
		}
	})
}

// P1.7: how many there may be.
func TestCounts(t *testing.T) {
	inputs(func(b []byte) {
		n := utf.Count(b)
		if n > len(b) || 4*n < len(b) {
			t.Fatalf("Count(%x): %d", b, n)
		}
		if m := utf.Count(utf.Bytes(utf.Runes(b)...)); m != n {
			t.Fatalf("Count(%x): %d, then %d", b, n, m)
		}
	})
	for _, c := range []struct {
		s    string
		want int
	}{{"\xff\xff\xff", 3}, {"\U0001F600\U0001F600", 2}, {"", 0}} {
		if got := utf.Count([]byte(c.s)); got != c.want {
			t.Errorf("Count(%x): %d", c.s, got)
		}
	}
}
