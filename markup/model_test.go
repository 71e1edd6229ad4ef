package markup_test

import (
	"strings"
	"testing"
	"unicode/utf8"

	"sieve/api"
	"sieve/markup"
	"sieve/utf"
)

// kinds: the three that there are.
var kinds = []int{markup.Comment, markup.Doctype, markup.Bogus}

// noKinds: some that there are not.
var noKinds = []int{-1, 3, 4, -2, 100, 1<<63 - 1, -1 << 63, 1 << 32, 1<<32 + 1, -1 << 32}

// answer is what Whole answers, but for its error.
type answer struct {
	says   string
	size   int
	closed bool
}

// whole: what Whole answers of a kind that there is.
func whole(t *testing.T, kind int, s string) answer {
	t.Helper()
	says, n, closed, e := markup.Whole(kind, s)
	if e != api.OK {
		t.Fatalf("Whole(%d, %q): %d", kind, s, e)
	}
	return answer{says, n, closed}
}

// ending is one that a comment may have: where it begins and where it ends.
type ending struct{ from, to int }

// endings: all first ones of their sort that a comment's text has.
func endings(s string) []ending {
	var out []ending
	for _, first := range []string{">", "->"} {
		if strings.HasPrefix(s, first) {
			out = append(out, ending{0, len(first)})
		}
	}
	for _, mark := range []string{"-->", "--!>"} {
		if at := strings.Index(s, mark); at >= 0 {
			out = append(out, ending{at, at + len(mark)})
		}
	}
	return out
}

// firstEnd: where the end of a text begins and ends; false, if it has none.
func firstEnd(kind int, s string) (ending, bool) {
	if kind != markup.Comment {
		at := strings.Index(s, ">")
		return ending{at, at + 1}, at >= 0
	}
	all := endings(s)
	if len(all) == 0 {
		return ending{}, false
	}
	first := all[0]
	for _, e := range all {
		if e.to < first.to {
			first = e
		}
	}
	return first, true
}

// unclosed: what a text says that is not closed.
func unclosed(kind int, s string) string {
	switch kind {
	case markup.Doctype:
		return ""
	case markup.Bogus:
		return s
	}
	for _, end := range []string{"--!", "--", "-"} {
		if strings.HasSuffix(s, end) {
			return s[:len(s)-len(end)]
		}
	}
	return s
}

// model: what Whole answers, by the chapter's words.
func model(kind int, s string) answer {
	text := utf.Mend(s)
	end, ok := firstEnd(kind, text)
	if !ok {
		return answer{unclosed(kind, text), len(s), false}
	}
	size, _ := utf.Place([]byte(s), utf8.RuneCountInString(text[:end.to]))
	if kind == markup.Doctype {
		return answer{"", size, true}
	}
	return answer{text[:end.from], size, true}
}

// texts tells all texts of up to so many parts.
func texts(most int, parts []string, tell func(s string)) {
	var grow func(s string, left int)
	grow = func(s string, left int) {
		tell(s)
		if left == 0 {
			return
		}
		for _, p := range parts {
			grow(s+p, left-1)
		}
	}
	grow("", most)
}

// signs: each state does something of its own with one of these.
var signs = []string{"-", "!", ">", "a"}

// pieces that are longer, or odd.
var pieces = []string{
	"-", "--", "!", ">", "->", "-->", "--!>", "--!", "a", " ", "\"", "'", "<!--", "é", "—", "＞", "\x00", "\n", "\r", "\ufffd", "\xff", "\xe2\x82", "\xf0\x9f\x98", "\xed\xa0\x80", "\x80", "\U0001F600",
}

// broken: bytes that are no UTF-8, and how many U+FFFD stand for them.
var broken = []struct {
	bytes string
	runes int
}{
	{"\xff", 1}, {"\x80", 1}, {"\xc3", 1}, {"\xe2\x82", 1}, {"\xf0\x9f\x98", 1}, {"\xc0\xaf", 2}, {"\xed\xa0\x80", 3}, {"\xf0\x80\x80", 3}, {"\xf4\x90\x80\x80", 4},
}
