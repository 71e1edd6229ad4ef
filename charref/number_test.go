package charref_test

import (
	"fmt"
	"strconv"
	"strings"
	"testing"

	"sieve/charref"
)

// P6.1: the chapter's example, and numbers by hand.
func TestNumberByHand(t *testing.T) {
	for _, c := range []struct {
		digits string
		hex    bool
		want   rune
		itself bool
	}{
		{"99999999999999999999", false, 0xFFFD, false}, {"65", false, 'A', true}, {"41", true, 'A', true}, {"0041", true, 'A', true}, {"000065", false, 'A', true},
		{"0", false, 0xFFFD, false}, {"000", true, 0xFFFD, false}, {"65533", false, 0xFFFD, true}, {"fffd", true, 0xFFFD, true},
		{"80", true, 0x20AC, false}, {"128", false, 0x20AC, false}, {"81", true, 0x81, true}, {"9f", true, 0x178, false}, {"159", false, 0x178, false}, {"7F", true, 0x7F, true}, {"A0", true, 0xA0, true},
		{"D7FF", true, 0xD7FF, true}, {"D800", true, 0xFFFD, false}, {"DFFF", true, 0xFFFD, false}, {"E000", true, 0xE000, true},
		{"10FFFF", true, 0x10FFFF, true}, {"1114111", false, 0x10FFFF, true}, {"110000", true, 0xFFFD, false}, {"1114112", false, 0xFFFD, false},
		{"FFFE", true, 0xFFFE, true}, {"fdd0", true, 0xFDD0, true}, {"1", false, 1, true}, {"13", false, '\r', true}, {"a", true, '\n', true}, {"F", true, 0xF, true}, {"1e3", true, 0x1E3, true},
		{"4294967361", false, 0xFFFD, false}, {"100000041", true, 0xFFFD, false}, {"18446744073709551681", false, 0xFFFD, false}, {"10000000000000041", true, 0xFFFD, false},
	} {
		if r, ok := charref.Number(c.digits, c.hex); r != c.want || ok != c.itself {
			t.Errorf("Number(%q, %v): %x, %v", c.digits, c.hex, r, ok)
		}
	}
}

// P6.1: none, or not all of them digits.
func TestNumberWrong(t *testing.T) {
	for _, s := range []string{"", "+1", "-1", " 1", "1 ", "1;", ";", "1_0", "0x41", "x41", "X41", "#65", "1.0", "g", "1g", "g1", "１", "1१", "\xff", "1\xff", "\x001", "é", "1\n", "&", strings.Repeat("1", 5000) + "g"} {
		for _, hex := range []bool{false, true} {
			if r, ok := charref.Number(s, hex); r != 0xFFFD || ok {
				t.Errorf("Number(%.20q, %v): %x, %v", s, hex, r, ok)
			}
		}
	}
	for _, s := range []string{"a", "F", "1e3", "0A", "A0"} { // digits behind an x alone
		if r, ok := charref.Number(s, false); r != 0xFFFD || ok {
			t.Errorf("Number(%q, false): %x, %v", s, r, ok)
		}
	}
}

// P6.1: every number up to a little above the last code point.
func TestNumber(t *testing.T) {
	for n := rune(0); n < 0x110100; n++ {
		want := saying(n)
		small := strconv.FormatInt(int64(n), 16)
		for _, s := range []string{small, strings.ToUpper(small), "000" + small} {
			if r, ok := charref.Number(s, true); r != want || ok != (r == n) {
				t.Fatalf("Number(%q, true): %x, %v", s, r, ok)
			}
		}
		if r, ok := charref.Number(strconv.Itoa(int(n)), false); r != want || ok != (r == n) {
			t.Fatalf("Number(%d, false): %x, %v", n, r, ok)
		}
	}
}

// P6.1: each number from 0x80 to 0x9F says what the chapter's table has, the five others themselves.
func TestNumberWindows(t *testing.T) {
	if len(turned) != 27 {
		t.Fatalf("the table has %d rows", len(turned))
	}
	for n := rune(0x80); n <= 0x9F; n++ {
		want, is := turned[n]
		if !is {
			want = n
		}
		if r, ok := charref.Number(fmt.Sprintf("%x", n), true); r != want || ok == is {
			t.Errorf("Number(%x): %x, %v", n, r, ok)
		}
		for _, form := range []string{"&#x%x;", "&#x%X", "&#X00%x;", "&#%d;", "&#%d"} {
			s := fmt.Sprintf(form, n)
			if got := charref.Decode(s, true); got != string(want) {
				t.Errorf("Decode(%q): %q", s, got)
			}
		}
	}
	for _, n := range []rune{0x81, 0x8D, 0x8F, 0x90, 0x9D} {
		if r, ok := charref.Number(strconv.Itoa(int(n)), false); r != n || !ok {
			t.Errorf("Number(%d): %x, %v", n, r, ok)
		}
	}
}

// P6.1: however many digits there are.
func TestNumberLong(t *testing.T) {
	zeros := strings.Repeat("0", 1<<22)
	for _, c := range []struct {
		digits string
		want   rune
	}{
		{zeros, 0xFFFD}, {zeros + "65", 'e'}, {zeros + "80", 0x20AC}, {zeros + "10FFFF", 0x10FFFF}, {zeros + "110000", 0xFFFD},
		{"1" + zeros, 0xFFFD}, {strings.Repeat("9", 1<<22), 0xFFFD}, {strings.Repeat("f", 1<<22), 0xFFFD}, {"41" + zeros + "41", 0xFFFD},
	} {
		if r, ok := charref.Number(c.digits, true); r != c.want || ok != (r == 'e' || r == 0x10FFFF) {
			t.Errorf("Number of %d digits: %x, %v", len(c.digits), r, ok)
		}
	}
	if r, ok := charref.Number(zeros+"65", false); r != 'A' || !ok {
		t.Errorf("Number of %d digits: %x, %v", len(zeros)+2, r, ok)
	}
}
