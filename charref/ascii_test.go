package charref_test

import (
	"fmt"
	"math"
	"slices"
	"strings"
	"testing"

	"sieve/api"
	"sieve/charref"
	"sieve/utf"
)

// P6.6: references by hand; what is no code point, or a surrogate, is U+FFFD.
func TestEncodeByHand(t *testing.T) {
	for r, want := range map[rune]string{
		0: "&#0;", 1: "&#1;", '\n': "&#10;", '&': "&#38;", 'A': "&#65;", 'é': "&#233;", 0x80: "&#128;", 0xD7FF: "&#55295;", 0xE000: "&#57344;", 0xFFFD: "&#65533;",
		0xFFFE: "&#65534;", 0x10FFFF: "&#1114111;", 0xD800: "&#65533;", 0xDBFF: "&#65533;", 0xDC00: "&#65533;", 0xDFFF: "&#65533;", 0x110000: "&#65533;",
		-1: "&#65533;", -65: "&#65533;", math.MaxInt32: "&#65533;", math.MinInt32: "&#65533;",
	} {
		if got := charref.Encode(r); got != want {
			t.Errorf("Encode(%x): %q", r, got)
		}
	}
}

// P6.6, P6.9: every code point that a numeric reference can say comes back.
func TestEncode(t *testing.T) {
	for r := rune(0); r <= 0x10FFFF; r++ {
		s := charref.Encode(r)
		want := saying(r)
		if r >= 0xD800 && r <= 0xDFFF {
			if s != "&#65533;" {
				t.Fatalf("Encode(%x): %q", r, s)
			}
		} else if s != fmt.Sprintf("&#%d;", r) {
			t.Fatalf("Encode(%x): %q", r, s)
		}
		for _, attr := range both {
			if got := charref.Decode(s, attr); got != string(want) {
				t.Fatalf("Decode(%q, %v): %q", s, attr, got)
			}
		}
	}
}

// P6.12: texts by hand.
func TestAsciiByHand(t *testing.T) {
	for _, c := range []struct{ s, text, attr string }{
		{"", "", ""}, {"a b\t\n\r\x00\x7f'=;#", "a b\t\n\r\x00\x7f'=;#", "a b\t\n\r\x00\x7f'=;#"},
		{"&<>\"", "&AMP;&LT;&GT;\"", "&AMP;&LT;&GT;&QUOT;"}, {"&amp;", "&AMP;amp;", "&AMP;amp;"}, {"{}", "{}", "{}"},
		{"é€α", "&eacute;&euro;&alpha;", "&eacute;&euro;&alpha;"}, {"я\U0001F600", "&#x44F;&#x1F600;", "&#x44F;&#x1F600;"},
		{"\u2242\u0338", "&#x2242;&#x338;", "&#x2242;&#x338;"}, {"fj", "fj", "fj"}, {"<\u20d2", "&LT;&#x20D2;", "&LT;&#x20D2;"}, // one rune at a time
		{"\u0080\u0081\u0085\u008d\u009f\u00a0", "&#xFFFD;&#x81;&#xFFFD;&#x8D;&#xFFFD;&nbsp;", "&#xFFFD;&#x81;&#xFFFD;&#x8D;&#xFFFD;&nbsp;"},
		{"\xff\xe2\x82a\xf0\x80", "&#xFFFD;&#xFFFD;a&#xFFFD;&#xFFFD;", "&#xFFFD;&#xFFFD;a&#xFFFD;&#xFFFD;"}, {"\ufffd\ufffe\U0010ffff", "&#xFFFD;&#xFFFE;&#x10FFFF;", "&#xFFFD;&#xFFFE;&#x10FFFF;"},
	} {
		if got := charref.Ascii(c.s, false); got != c.text {
			t.Errorf("Ascii(%q) in text: %q", c.s, got)
		}
		if got := charref.Ascii(c.s, true); got != c.attr {
			t.Errorf("Ascii(%q) in an attribute: %q", c.s, got)
		}
	}
}

// shortest: the names with a semicolon that stand for one rune, by chapter 5's words.
func shortest() map[rune]string {
	out := map[rune]string{}
	for _, e := range api.Entities() {
		if was, ok := out[e.First]; e.Second == 0 && (!ok || len(e.Name)+1 < len(was)) { // they come in the order of bytes
			out[e.First] = e.Name + ";"
		}
	}
	return out
}

// P6.12: runes one by one: all of the table's, all below U+3000, both ends of what there is.
func TestAsciiRunes(t *testing.T) {
	names := shortest()
	runes := []rune{0xD7FF, 0xE000, 0xFDD0, 0xFFFC, 0xFFFD, 0xFFFE, 0xFFFF, 0x10000, 0x1F600, 0xFFFFF, 0x10FFFF}
	for _, e := range api.Entities() {
		runes = append(runes, e.First)
	}
	for r := rune(0); r < 0x3000; r++ {
		runes = append(runes, r)
	}
	for _, attr := range both {
		for _, r := range runes {
			want := string(r)
			name, named := names[r]
			switch _, lost := turned[r]; {
			case lost:
				want = "&#xFFFD;"
			case r < 0x80 && !strings.ContainsRune("&<>", r) && !(attr && r == '"'):
			case named:
				want = "&" + name
			default:
				want = fmt.Sprintf("&#x%X;", r)
			}
			if got := charref.Ascii(string(r), attr); got != want {
				t.Errorf("Ascii of %x, %v: %q, not %q", r, attr, got, want)
			}
		}
	}
}

// P6.13: it is ASCII, and comes back in text and in attributes, but for the runes that no reference says.
func TestAsciiBack(t *testing.T) {
	check := func(s string) {
		want := ""
		for _, r := range utf.Mend(s) {
			if _, lost := turned[r]; lost {
				r = 0xFFFD
			}
			want += string(r)
		}
		for _, attr := range both {
			ascii := charref.Ascii(s, attr)
			if at := strings.IndexFunc(ascii, func(r rune) bool { return r >= 0x80 }); at >= 0 {
				t.Errorf("Ascii(%.40q, %v): %.40q", s, attr, ascii)
			}
			for _, in := range both {
				if got := charref.Decode(ascii, in); got != want {
					t.Errorf("Decode of Ascii(%.40q, %v), %v: %.40q", s, attr, in, got)
				}
			}
		}
	}
	texts(2, check)
	some := []rune{0, '\r', '"', '&', '<', '=', ';', '#', 'a', '1', 0x7F, 0x80, 0x81, 0x9D, 0x9F, 0xA0, 0xAC, 0xFFFD, 0xFFFE, 0x2242, 0x338, 0x10FFFF}
	for _, a := range some {
		for _, b := range some {
			check(string([]rune{a, b}))
			check(string([]rune{b, a, 'i', 't', ';'}))
		}
	}
	for n := range 0x100 {
		check(string([]byte{byte(n), 'a', byte(n)}))
	}
}

// P6.12: a long text of few runes, and one of many.
func TestAsciiLong(t *testing.T) {
	if got := charref.Ascii(strings.Repeat("яé", 1<<18), true); got != strings.Repeat("&#x44F;&eacute;", 1<<18) {
		t.Errorf("few runes: %d bytes", len(got))
	}
	var runes []rune
	for r := rune(0x4E00); r < 0x6000; r++ {
		runes = append(runes, r)
	}
	s := string(slices.Repeat(runes, 3))
	if got := charref.Decode(charref.Ascii(s, false), false); got != s {
		t.Errorf("many runes: %d bytes", len(got))
	}
}
