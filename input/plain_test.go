package input_test

import (
	"math"
	"testing"
	"unicode/utf8"

	"sieve/input"
)

// span is runes from low to high, both with it.
type span struct{ low, high rune }

// replaced: what stands for U+FFFD by the chapter's own list.
func replaced() []span {
	l := []span{
		{math.MinInt32, -1}, {0xD800, 0xDFFF}, {0x110000, math.MaxInt32},
		{0x0000, 0x0008}, {0x000B, 0x000B}, {0x000E, 0x001F}, {0x007F, 0x009F},
		{0xFDD0, 0xFDEF}, {0xFFFE, 0xFFFF},
	}
	for plane := rune(1); plane <= 16; plane++ {
		l = append(l, span{plane*0x10000 + 0xFFFE, plane*0x10000 + 0xFFFF})
	}
	return l
}

// plain: what Plain answers by that list.
func plain(r rune) rune {
	if r == 13 {
		return 10
	}
	for _, s := range replaced() {
		if r >= s.low && r <= s.high {
			return 0xFFFD
		}
	}
	return r
}

// P3.1: the chapter's example, and neighbours of what is replaced, written out.
func TestPlainExamples(t *testing.T) {
	for _, r := range []rune{0, 1, 8, 0x0B, 0x0E, 0x1B, 0x1F, 0x7F, 0x80, 0x85, 0x9F, 0xFDD0, 0xFDEF, 0xFFFE, 0xFFFF, 0x1FFFE, 0x1FFFF, 0x10FFFE, 0x10FFFF, 0xD800, 0xDFFF, -1, 0x110000, math.MinInt32, math.MaxInt32, 0xFFFD} {
		if got := input.Plain(r); got != 0xFFFD {
			t.Errorf("Plain(%x): %x", r, got)
		}
	}
	for _, r := range []rune{9, 10, 12, ' ', 'a', '<', '&', 0x7E, 0xA0, 0xE9, 0xD7FF, 0xE000, 0xFDCF, 0xFDF0, 0xFEFF, 0xFFFC, 0x10000, 0x1FFFD, 0x20000, 0x1FDD0, 0x10FFFD} {
		if got := input.Plain(r); got != r {
			t.Errorf("Plain(%x): %x", r, got)
		}
	}
	if got := input.Plain(13); got != 10 {
		t.Errorf("Plain(13): %x", got)
	}
}

// P3.1: every rune around and within what there is, and both sides of each end of a range.
func TestPlainAll(t *testing.T) {
	for r := rune(-0x20000); r <= 0x130000; r++ {
		if got := input.Plain(r); got != plain(r) {
			t.Fatalf("Plain(%x): %x", r, got)
		}
	}
	for _, s := range replaced() {
		for d := int64(-2); d <= 2; d++ {
			for _, end := range []rune{s.low, s.high} {
				near := int64(end) + d
				if near < math.MinInt32 || near > math.MaxInt32 {
					continue
				}
				if r := rune(near); input.Plain(r) != plain(r) {
					t.Errorf("Plain(%x): %x", r, input.Plain(r))
				}
			}
		}
	}
	for bit := range 32 {
		r := rune(uint32(1) << bit)
		for _, r := range []rune{r, -r, ^r, r | 0xFFFE, r | '\r'} {
			if input.Plain(r) != plain(r) {
				t.Errorf("Plain(%x): %x", r, input.Plain(r))
			}
		}
	}
}

// P3.5: Plain of Plain is Plain.
func TestPlainTwice(t *testing.T) {
	for r := rune(-0x1000); r <= 0x111000; r++ {
		if once := input.Plain(r); input.Plain(once) != once {
			t.Fatalf("Plain(%x): %x, again %x", r, once, input.Plain(once))
		}
	}
}

// P3.1: Clean joins no newlines; what is no UTF-8 is read as chapter 1 reads it.
func TestClean(t *testing.T) {
	for _, c := range []struct{ s, want string }{
		{"", ""},
		{"a b", "a b"},
		{"\r\n", "\n\n"},
		{"\r\r\n\n\r", "\n\n\n\n\n"},
		{"a\x00b\x7f\u0085\ufffe\ufdd0\U0010ffffé", "a\uFFFDb\uFFFD\uFFFD\uFFFD\uFFFD\uFFFDé"},
		{"\t\f\v", "\t\f\uFFFD"},
		{"\uFFFD", "\uFFFD"},
		{"\xff", "\uFFFD"},
		{"a\xe2\x82b", "a\uFFFDb"},
		{"\xf0\x9f\x98", "\uFFFD"},
		{"\xe2\x82\xe2\x82\xac", "\uFFFD€"},
		{"\xed\xa0\x80", "\uFFFD\uFFFD\uFFFD"},
		{"\xe2\x82\r\n\xc3", "\uFFFD\n\n\uFFFD"},
	} {
		if got := input.Clean(c.s); got != c.want {
			t.Errorf("Clean(%q): %q, want %q", c.s, got, c.want)
		}
	}
}

// P3.1, P3.5, R6: Clean is Plain rune by rune, valid, and plain itself.
func TestCleanAll(t *testing.T) {
	some(func(b []byte) {
		want := ""
		for _, c := range pieces(b) {
			want += string(plain(c.r))
		}
		got := input.Clean(string(b))
		if got != want || !utf8.ValidString(got) {
			t.Fatalf("Clean(%x): %x, want %x", b, got, want)
		}
		if again := input.Clean(got); again != got {
			t.Fatalf("Clean(%x) again: %x", b, again)
		}
	})
}
