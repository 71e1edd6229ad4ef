package names_test

import (
	"math"
	"strings"
	"testing"
	"unicode/utf8"

	"sieve/names"
)

const (
	capitals = "ABCDEFGHIJKLMNOPQRSTUVWXYZ"
	smalls   = "abcdefghijklmnopqrstuvwxyz"
	digits   = "0123456789"
	blanks   = "\t\n\f "
)

// runes calls with every character, and with many runes that are none: negative ones, surrogates, those above U+10FFFF.
func runes(call func(r rune)) {
	for r := rune(-70000); r < utf8.MaxRune+70000; r++ {
		call(r)
	}
	for d := range rune(70000) {
		call(math.MinInt32 + d)
		call(math.MaxInt32 - d)
	}
}

// among: is a rune one of some ASCII characters? (strings.ContainsRune takes all wrong runes for U+FFFD.)
func among(r rune, chars string) bool {
	return r >= 0 && r < 128 && strings.IndexByte(chars, byte(r)) >= 0
}

// P4.1: of every rune just what the words say.
func TestClasses(t *testing.T) {
	runes(func(r rune) {
		wrong := func(name string) { t.Errorf("%s(%#x)", name, r) }
		if names.Letter(r) != among(r, capitals+smalls) {
			wrong("Letter")
		}
		if names.Upper(r) != among(r, capitals) {
			wrong("Upper")
		}
		if names.Digit(r) != among(r, digits) {
			wrong("Digit")
		}
		if names.Hex(r) != among(r, digits+"ABCDEFabcdef") {
			wrong("Hex")
		}
		if names.Blank(r) != among(r, blanks) {
			wrong("Blank")
		}
	})
}

// P4.1: a hexadecimal digit counts 0 to 15, all others -1.
func TestValue(t *testing.T) {
	runes(func(r rune) {
		want := -1
		if among(r, digits+"ABCDEF") {
			want = strings.IndexByte(digits+"ABCDEF", byte(r))
		} else if among(r, digits+"abcdef") {
			want = strings.IndexByte(digits+"abcdef", byte(r))
		}
		if got := names.Value(r); got != want {
			t.Errorf("Value(%#x): %d, not %d", r, got, want)
		}
	})
}

// P4.1: the ends of each range, and their neighbours.
func TestClassEdges(t *testing.T) {
	cases := []struct {
		name string
		is   func(rune) bool
		in   string
		out  string
	}{
		{"Letter", names.Letter, "AZaz", "@[`{09"},
		{"Upper", names.Upper, "AZ", "@[az"},
		{"Digit", names.Digit, "09", "/:A"},
		{"Hex", names.Hex, "09AFaf", "/:@G`g"},
		{"Blank", names.Blank, "\t\n\f ", "\b\v\r\x0e\x1f!\u0085\u00a0\u2028\u3000"},
	}
	for _, c := range cases {
		for _, r := range c.in {
			if !c.is(r) {
				t.Errorf("%s(%q): false", c.name, r)
			}
		}
		for _, r := range c.out {
			if c.is(r) {
				t.Errorf("%s(%q): true", c.name, r)
			}
		}
	}
}

// P4.2: one rune in lower case: A to Z alone change.
func TestLowerRune(t *testing.T) {
	runes(func(r rune) {
		want := r
		if among(r, capitals) {
			want = rune(smalls[strings.IndexByte(capitals, byte(r))])
		}
		if got := names.LowerRune(r); got != want {
			t.Errorf("LowerRune(%#x): %#x", r, got)
		}
	})
}
