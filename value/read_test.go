package value_test

import (
	"fmt"
	"slices"
	"strings"
	"testing"

	"sieve/api"
	"sieve/value"
)

// P13.1: words, parted by blanks of each kind, one or several.
func TestTokens(t *testing.T) {
	for v, want := range map[string][]string{
		"": nil, " ": nil, "\t\n\f\r ": nil, "a": {"a"}, " a  b ": {"a", "b"}, "a\tb": {"a", "b"}, "a\nb": {"a", "b"}, "a\fb": {"a", "b"}, "a\rb": {"a", "b"}, "a\r\nb": {"a", "b"}, "\ta\t": {"a"}, "\na\n": {"a"}, "\fa\f": {"a"}, "\ra\r": {"a"},
		" a\tb  a ": {"a", "b", "a"}, "B a B": {"B", "a", "B"}, "a\vb": {"a\ufffdb"}, "a\u00a0b": {"a\u00a0b"}, "a\u0085b": {"a\ufffdb"}, "a\u2028b": {"a\u2028b"}, "\u2003": {"\u2003"}, "\x00": {"\ufffd"}, "é \U0001f600 €": {"é", "\U0001f600", "€"}, "\xff \xe2\x82": {"\ufffd", "\ufffd"}, "\xe2\x82a": {"\ufffda"}, "\xe2 \x82": {"\ufffd", "\ufffd"}, "a,b": {"a,b"},
	} {
		if got := value.Tokens(v); !slices.Equal(got, want) {
			t.Errorf("%q: %q; want %q", v, got, want)
		}
	}
	long := value.Tokens(strings.Repeat(" ab\n", 1<<16))
	if len(long) != 1<<16 || long[0] != "ab" || long[1<<16-1] != "ab" {
		t.Error(len(long))
	}
}

// noNumbers: texts that are no numbers, by their length or by what stands in them.
var noNumbers = []string{"", " ", "-1", "+1", "-", "+", "1234567890", "0000000000", "0123456789", "9999999999", strings.Repeat("1", 1<<16), " 7", "7 ", "7\n", "\t7", "7\r", "7 7", "7.", "7.0", ".7", "7,0", "7e1", "0x7", "a", "7a", "a7", "١", "７", "7７", "²", "Ⅶ", "\x00", "7\x00", "7\xff", "\xff", "\xe2\x82", "é", "7\ufffd", "7/", "7:", "１２３", "1_0", "0b1", "7%7"}

// P13.1: numbers of one to nine digits, with 0 at the front, of zeros alone.
func TestNumber(t *testing.T) {
	for v, want := range map[string]int{
		"0": 0, "1": 1, "5": 5, "9": 9, "00": 0, "000000000": 0, "0012": 12, "007": 7, "10": 10, "123456789": 123456789, "999999999": 999999999, "000000009": 9, "098765432": 98765432, "1000000": 1000000,
	} {
		if got, ok := value.Number(v); got != want || !ok {
			t.Errorf("%q: %d, %v; want %d", v, got, ok, want)
		}
	}
	for _, v := range append([]string{"5%"}, noNumbers...) {
		if got, ok := value.Number(v); got != 0 || ok {
			t.Errorf("%q: %d, %v", v, got, ok)
		}
	}
}

// told: what Tokens, Number, Date and Color tell is what the chapter's words say; Tokens of what is written are the Tokens (P13.6).
func told(t *testing.T, v string) {
	t.Helper()
	tokens := value.Tokens(v)
	if want := modelTokens(v); !slices.Equal(tokens, want) {
		t.Fatalf("Tokens(%q): %q; want %q", v, tokens, want)
	}
	tidy, _, _ := value.Tidy(api.Rule{Kind: api.ValueTokens}, nil, false, v)
	if again := value.Tokens(tidy); !slices.Equal(again, tokens) {
		t.Fatalf("Tokens(%q): %q; of %q: %q", v, tokens, tidy, again)
	}
	n, ok := value.Number(v)
	if digits, may := modelNumber(v); ok != may || may && fmt.Sprint(n) != digits || !may && n != 0 {
		t.Fatalf("Number(%q): %d, %v; want %q, %v", v, n, ok, digits, may)
	}
	dated(t, v)
	c, ok := value.Color(v)
	if want, may := modelColor(v); c != want || ok != may {
		t.Fatalf("Color(%q): %06x, %v; want %06x, %v", v, c, ok, want, may)
	}
}

// dated: the same of Date.
func dated(t *testing.T, v string) {
	t.Helper()
	y, m, d, ok := value.Date(v)
	if year, month, day, may := modelDate(v); y != year || m != month || d != day || ok != may {
		t.Fatalf("Date(%q): %d, %d, %d, %v; want %d, %d, %d, %v", v, y, m, d, ok, year, month, day, may)
	}
}

// P13.1, P13.6, P13.7: all short texts of the signs that matter, and every byte everywhere.
func TestReadInAllOrders(t *testing.T) {
	tell := func(v string) { told(t, v) }
	texts(3, signs, tell)
	everywhere(tell)
	texts(7, []string{"#", "a", "F"}, tell)
	texts(5, []string{"20", "02", "-", "29"}, tell)
	texts(6, []string{"a", " ", "\r", "\xff"}, tell)
}

// P13.7: days at each month's end, and Februaries of years that 4, 100 and 400 divide.
func TestDate(t *testing.T) {
	for v, want := range map[string][3]int{
		"0001-01-01": {1, 1, 1}, "2026-11-18": {2026, 11, 18}, "9999-12-31": {9999, 12, 31}, "2000-02-29": {2000, 2, 29}, "2004-02-29": {2004, 2, 29}, "0400-02-29": {400, 2, 29}, "0004-02-29": {4, 2, 29}, "1900-02-28": {1900, 2, 28}, "2023-02-28": {2023, 2, 28}, "1999-10-10": {1999, 10, 10},
	} {
		if y, m, d, ok := value.Date(v); [3]int{y, m, d} != want || !ok {
			t.Errorf("%q: %d, %d, %d, %v", v, y, m, d, ok)
		}
	}
	ends := []int{31, 28, 31, 30, 31, 30, 31, 31, 30, 31, 30, 31}
	for n, end := range ends {
		for day, may := range map[int]bool{0: false, 1: true, end: true, end + 1: false, 99: false} {
			v := fmt.Sprintf("2023-%02d-%02d", n+1, day)
			if _, _, _, ok := value.Date(v); ok != may {
				t.Errorf("%q: %v", v, ok)
			}
		}
	}
	for _, v := range []string{"", "-", "--", "0000-01-01", "0000-02-29", "2023-00-01", "2023-13-01", "2023-99-01", "2023-01-00", "2023-01-32", "2023-02-29", "1900-02-29", "2100-02-29", "2000-02-30", "2004-02-30", "2023-04-31", "999-01-01", "10000-01-01", "2023-1-01", "2023-01-1", "2023-001-01", "2023-01-001", "2023-1-1", "23-01-01", "20230101", "2023-0101", "202301-01", "2023/01/01", "2023-01/01", "2023/01-01", "2023-01-01 ", " 2023-01-01", "2023-01-01\n", "2023-01-01T00:00", "-2023-01-01", "-023-01-01", "+023-01-01", "2023--1-01", "2023-01--1", "2023-+1-01", "2023-01-+1", "2023- 1-01", "２023-01-01", "2023–01–01", "2023-01-0\xff", "\xff023-01-01", "2023-01-0\x00", "é23-01-01", "2023-é-01", "2023-01-é", "2023", "2023-01", "01-01-2023", "abcd-ef-gh"} {
		if y, m, d, ok := value.Date(v); y != 0 || m != 0 || d != 0 || ok {
			t.Errorf("%q: %d, %d, %d, %v", v, y, m, d, ok)
		}
	}
}

// P13.7: all days of some years, and the end of February of all years.
func TestCalendar(t *testing.T) {
	for year := range 10000 {
		for day := 28; day <= 30; day++ {
			dated(t, fmt.Sprintf("%04d-02-%02d", year, day))
		}
	}
	for _, year := range []int{0, 1, 3, 4, 99, 100, 400, 1900, 1999, 2000, 2024, 9999} {
		for month := range 15 {
			for day := range 35 {
				dated(t, fmt.Sprintf("%04d-%02d-%02d", year, month, day))
			}
		}
	}
}

// P13.7: colors of three and six digits, in capitals and not, and what is none.
func TestColor(t *testing.T) {
	for v, want := range map[string]uint32{
		"#000": 0, "#000000": 0, "#fff": 0xffffff, "#FFF": 0xffffff, "#ffffff": 0xffffff, "#FFFFFF": 0xffffff, "#abc": 0xaabbcc, "#ABC": 0xaabbcc, "#aBc": 0xaabbcc, "#123": 0x112233, "#9aF": 0x99aaff, "#123456": 0x123456, "#789abc": 0x789abc, "#DEF012": 0xdef012, "#aAfF09": 0xaaff09, "#00000f": 0xf, "#f00000": 0xf00000, "#00f": 0xff, "#f00": 0xff0000, "#0f0": 0xff00,
	} {
		if got, ok := value.Color(v); got != want || !ok {
			t.Errorf("%q: %06x, %v; want %06x", v, got, ok, want)
		}
	}
	for n := range 20 {
		v := "#" + strings.Repeat("a", n)
		if _, ok := value.Color(v); ok != (n == 3 || n == 6) {
			t.Errorf("%q: %v", v, ok)
		}
		if got, ok := value.Color(v[1:]); got != 0 || ok {
			t.Errorf("%q: %06x, %v", v[1:], got, ok)
		}
	}
	for _, v := range []string{"", "#", "##", "##abc", "#abc#", "abc", "abcdef", "#abg", "#abcdeg", "#g00", "#G00000", "#-12", "#+12", "#1 2", " #abc", "#abc ", "#abc\n", "\t#abc", "#/00", "#:00", "#@00", "#`00", "# 00", "#０00", "#é0", "#éé", "#é", "#ééé", "#\xff00", "#00\xff", "\xff#000", "#\x0000", "#\xff", "0x112233", "red", "rgb(0,0,0)", "#0x1", "#0x1234", "＃000", "#" + strings.Repeat("f", 1<<16)} {
		if got, ok := value.Color(v); got != 0 || ok {
			t.Errorf("%q: %06x, %v", v, got, ok)
		}
	}
}
