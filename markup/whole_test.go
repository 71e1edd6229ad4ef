package markup_test

import (
	"strings"
	"testing"

	"sieve/api"
	"sieve/markup"
	"sieve/utf"
)

// says: Whole answers so.
func says(t *testing.T, kind int, s string, want answer) {
	t.Helper()
	if got := whole(t, kind, s); got != want {
		t.Errorf("%d, %q: %+v; want %+v", kind, s, got, want)
	}
}

// P9.2, P9.3: the chapter's examples.
func TestWholeExamples(t *testing.T) {
	says(t, markup.Comment, ">x", answer{"", 1, true})
	says(t, markup.Comment, "->x", answer{"", 2, true})
	says(t, markup.Comment, "-->", answer{"", 3, true})
	says(t, markup.Comment, "a--!>b", answer{"a", 5, true})
	says(t, markup.Comment, "a->b-->", answer{"a->b", 7, true})
	says(t, markup.Comment, "a--", answer{"a", 3, false})
	says(t, markup.Comment, "a--!", answer{"a", 4, false})
	says(t, markup.Comment, "<!-->x", answer{"<!", 5, true})
	says(t, markup.Bogus, "a>b", answer{"a", 2, true})
	says(t, markup.Doctype, " html \">\"", answer{"", 8, true})
	if text, n, closed, e := markup.Whole(3, ""); text != "" || n != 0 || closed || e != api.ErrArg {
		t.Errorf("%q, %d, %v, %d", text, n, closed, e)
	}
}

// P9.2: comments that are closed.
func TestWholeClosed(t *testing.T) {
	for s, want := range map[string]answer{
		">":                {"", 1, true},
		">-->":             {"", 1, true},
		">>":               {"", 1, true},
		"->":               {"", 2, true},
		"->-->":            {"", 2, true},
		"->>":              {"", 2, true},
		"-->-->":           {"", 3, true},
		"--!>":             {"", 4, true},
		"--!>-->":          {"", 4, true},
		"--->":             {"-", 4, true},
		"---->":            {"--", 5, true},
		"---!>":            {"-", 5, true},
		"----!>":           {"--", 6, true},
		"a-->":             {"a", 4, true},
		"a--->":            {"a-", 5, true},
		"a---!>":           {"a-", 6, true},
		"a-->b--!>":        {"a", 4, true},
		"a--!>b-->":        {"a", 5, true},
		"a--!-->":          {"a--!", 7, true},
		"a--!--!>":         {"a--!", 8, true},
		"a--!->-->":        {"a--!->", 9, true},
		"a--!->--!>":       {"a--!->", 10, true},
		"a--!!>-->":        {"a--!!>", 9, true},
		"a--!x>-->":        {"a--!x>", 9, true},
		"a--! >--!>":       {"a--! >", 10, true},
		"a--x-->":          {"a--x", 7, true},
		"a-x-->":           {"a-x", 6, true},
		"a- -->":           {"a- ", 6, true},
		"a-- >-->":         {"a-- >", 8, true},
		"a>-->":            {"a>", 5, true},
		"a->-->":           {"a->", 6, true},
		" >-->":            {" >", 5, true},
		" ->-->":           {" ->", 6, true},
		"!>-->":            {"!>", 5, true},
		"-!>-->":           {"-!>", 6, true},
		"-a>-->":           {"-a>", 6, true},
		"-a->-->":          {"-a->", 7, true},
		"a!-->":            {"a!", 5, true},
		"a!--!>":           {"a!", 6, true},
		"!-->":             {"!", 4, true},
		"<!--a-->":         {"<!--a", 8, true},
		"<!---->":          {"<!--", 7, true},
		"\x00-->":          {"\x00", 4, true},
		"a\r\n-->":         {"a\r\n", 6, true},
		"&amp;-->":         {"&amp;", 8, true},
		"é—\U0001F600-->x": {"é—\U0001F600", 12, true},
		"＞-->":             {"＞", 6, true},
		"-＞-->":            {"-＞", 7, true},
	} {
		says(t, markup.Comment, s, want)
	}
}

// P9.2: comments that are not closed.
func TestWholeOpen(t *testing.T) {
	for end, rest := range map[string]string{
		"": "", "-": "", "--": "", "--!": "", "---": "-", "---!": "-", "-!": "-!", "--!-": "--!", "--!--": "--!", "--!--!": "--!", "----": "--", "----!": "--",
		"--!!": "--!!", "!": "!", "!-": "!", "!--": "!", "!--!": "!", "-!-": "-!", "-!--": "-!", "-!!": "-!!", "--!-!": "--!-!", "--!---": "--!-", "--a": "--a", "-- ": "-- ", "- -": "- ", "--!a": "--!a",
	} {
		for _, ahead := range []string{"", "a", "a-a", "a--a", "a--!a", " ->a", "<!a", "é", "\x00"} {
			says(t, markup.Comment, ahead+end, answer{ahead + rest, len(ahead + end), false})
		}
	}
	for _, s := range []string{"a", "a>", "a->", "a>>", " >", "!>", "a-!>", "--x>", "--! >", "--!!>", "a->b->", "--!->", "-!->"} {
		says(t, markup.Comment, s, answer{s, len(s), false})
	}
}

// P9.2: bogus comments and doctypes end with the first >, wherever it stands.
func TestWholeOthers(t *testing.T) {
	for _, c := range []struct {
		s, ahead string
		closed   bool
	}{
		{"", "", false}, {">", "", true}, {">>", "", true}, {"a", "a", false}, {"a>", "a", true}, {"a>b>", "a", true}, {"-->", "--", true}, {"--!>", "--!", true}, {"->", "-", true}, {"-", "-", false}, {"--", "--", false}, {"--!", "--!", false},
		{" html \">\"", " html \"", true}, {"'>'>", "'", true}, {"\"a", "\"a", false}, {"[CDATA[x]]>", "[CDATA[x]]", true}, {"[CDATA[>]]>", "[CDATA[", true}, {"?xml version=\"1.0\"?>x", "?xml version=\"1.0\"?", true},
		{" html PUBLIC \"-//W3C//DTD\" '>", " html PUBLIC \"-//W3C//DTD\" '", true}, {"é＞>", "é＞", true}, {"\x00>", "\x00", true}, {" ", " ", false}, {"<a>", "<a", true}, {"&gt;", "&gt;", false},
	} {
		n := len(c.ahead)
		if c.closed {
			n++
		}
		says(t, markup.Bogus, c.s, answer{c.ahead, n, c.closed})
		says(t, markup.Doctype, c.s, answer{"", n, c.closed})
	}
}

// P9.3: kinds that there are not, whatever the text.
func TestWholeNoKind(t *testing.T) {
	for _, kind := range noKinds {
		for _, s := range []string{"", ">", "a", "a-->b", "\xff", "a--"} {
			if text, n, closed, e := markup.Whole(kind, s); text != "" || n != 0 || closed || e != api.ErrArg {
				t.Errorf("%d, %q: %q, %d, %v, %d", kind, s, text, n, closed, e)
			}
		}
	}
}

// P9.3: bytes that are no UTF-8, at the beginning, in the middle, at the end: they are mended in what it says, and counted as they are.
func TestWholeBroken(t *testing.T) {
	for _, b := range broken {
		mended := strings.Repeat("\ufffd", b.runes)
		for _, ahead := range []string{"", "a", "a-", "a--", "a--!", "-", "--", "--!", "é"} {
			for _, behind := range []string{"", "a", "é"} {
				s, want := ahead+b.bytes+behind, ahead+mended+behind
				for _, end := range []string{"-->", "--!>"} {
					says(t, markup.Comment, s+end, answer{want, len(s + end), true})
					says(t, markup.Comment, s+end+b.bytes, answer{want, len(s + end), true})
				}
				says(t, markup.Comment, s+">", answer{want + ">", len(s) + 1, false})
				says(t, markup.Comment, s+"->", answer{want + "->", len(s) + 2, false})
				says(t, markup.Comment, s, answer{want, len(s), false})
				says(t, markup.Comment, s+"--", answer{want, len(s) + 2, false})
				says(t, markup.Bogus, s+">"+b.bytes, answer{want, len(s) + 1, true})
				says(t, markup.Bogus, s, answer{want, len(s), false})
				says(t, markup.Doctype, s+">"+b.bytes, answer{"", len(s) + 1, true})
				says(t, markup.Doctype, s, answer{"", len(s), false})
			}
		}
		// Bytes that are no UTF-8 within an end part it; behind an end they count nothing.
		says(t, markup.Comment, "a-"+b.bytes+"->", answer{"a-" + mended + "->", 4 + len(b.bytes), false})
		says(t, markup.Comment, "a--!"+b.bytes+">", answer{"a--!" + mended + ">", 5 + len(b.bytes), false})
		says(t, markup.Comment, ">"+b.bytes, answer{"", 1, true})
		says(t, markup.Comment, "->"+b.bytes, answer{"", 2, true})
		says(t, markup.Comment, b.bytes+">-->", answer{mended + ">", len(b.bytes) + 4, true})
		says(t, markup.Comment, "-"+b.bytes+">-->", answer{"-" + mended + ">", len(b.bytes) + 5, true})
	}
}

// held: Whole against the model; R6: valid texts; P9.6: what a closed comment says has no end in it.
func held(t *testing.T, kind int, s string) answer {
	t.Helper()
	got := whole(t, kind, s)
	if want := model(kind, s); got != want {
		t.Fatalf("%d, %q: %+v; want %+v", kind, s, got, want)
	}
	if !utf.Valid([]byte(got.says)) {
		t.Fatalf("%d, %q: %q", kind, s, got.says)
	}
	if kind == markup.Comment && got.closed && tells(got.says) {
		t.Fatalf("%q: %q", s, got.says)
	}
	return got
}

// tells: does what a comment says have an end in it?
func tells(s string) bool {
	return strings.Contains(s, "-->") || strings.Contains(s, "--!>") || strings.HasPrefix(s, ">") || strings.HasPrefix(s, "->")
}

// P9.2, P9.3, P9.6: all short texts of the signs that matter.
func TestWholeSigns(t *testing.T) {
	texts(9, signs, func(s string) { held(t, markup.Comment, s) })
	texts(7, signs, func(s string) {
		held(t, markup.Doctype, s)
		held(t, markup.Bogus, s)
	})
}

// P9.2, P9.3, P9.6: odd pieces in every order.
func TestWholePieces(t *testing.T) {
	texts(3, pieces, func(s string) {
		for _, kind := range kinds {
			held(t, kind, s)
		}
	})
}

// P9.2, P9.3: each byte, in each place that matters.
func TestWholeBytes(t *testing.T) {
	for c := range 256 {
		own := string([]byte{byte(c)})
		for _, ahead := range []string{"", "-", "--", "--!", "---", "a", "a-", "a--", "a--!", "a--!-", "\xe2", "\xe2\x82", "\xf0\x9f"} {
			for _, behind := range []string{"", ">", "->", "-->", "!>", "--!>", "a", "\x80"} {
				for _, kind := range kinds {
					held(t, kind, ahead+own+behind)
				}
			}
		}
	}
}

// P9.2: nothing that stands behind the end counts.
func TestWholeBehind(t *testing.T) {
	texts(3, pieces, func(s string) {
		for _, kind := range kinds {
			got := whole(t, kind, s)
			if !got.closed {
				continue
			}
			for _, behind := range []string{">", "-->", "--!>", "-", "\xff", "\x80", "a>"} {
				if more := whole(t, kind, s+behind); more != got {
					t.Fatalf("%d, %q + %q: %+v; want %+v", kind, s, behind, more, got)
				}
			}
			if less := whole(t, kind, s[:got.size]); less != got {
				t.Fatalf("%d, %q: %+v; want %+v", kind, s[:got.size], less, got)
			}
		}
	})
}

// P9.6: the longer texts of a comment in which an end nearly comes.
func TestWholeNoEnd(t *testing.T) {
	near := []string{"--!->", "->", "--!!>", "-- >", "!>", "---", "--!--", "a", "-->", "--!>"}
	texts(5, near, func(s string) {
		for _, end := range []string{"-->", "--!>"} {
			if got := held(t, markup.Comment, s+end); !got.closed {
				t.Fatalf("%q: %+v", s+end, got)
			}
		}
	})
}

// R1: long texts, of what is held back, of what nearly ends it, and of what stands behind the end.
func TestWholeLong(t *testing.T) {
	const many = 1 << 18
	for _, piece := range []string{"-", "a", "->", ">", "--!", "--!-", "\xff", "é", "-a>"} {
		long := strings.Repeat(piece, many)
		for _, kind := range kinds {
			for i, text := range []string{long, "a" + long + "-->" + long, "--!>" + long} {
				if whole(t, kind, text) != model(kind, text) {
					t.Errorf("%d, many %q, the %d-th", kind, piece, i)
				}
			}
		}
	}
}
