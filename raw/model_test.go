package raw_test

import (
	"regexp"
	"strings"
	"testing"
	"unicode/utf8"

	"sieve/api"
	"sieve/names"
	"sieve/raw"
	"sieve/utf"
)

// rcdata, rawText: the names of the two sets, as the document tells them.
var (
	rcdata  = []string{"textarea", "title"}
	rawText = []string{"iframe", "noembed", "noframes", "noscript", "style", "xmp"}
)

// all: every name whose content is not read as data.
var all = append(append([]string{"script", "plaintext"}, rcdata...), rawText...)

// others: names whose content is read as data, and texts that are no names.
var others = []string{
	"", "p", "b", "div", "a", "pre", "listing", "textare", "textareas", "titl", "titles", "tit", "styl", "styles", "xm", "xmps", "iframes", "noscripts", "scrip", "scripts", "plaintex", "plaintexts", "plain", "text",
	"Title", "TITLE", "titlE", "TEXTAREA", "Style", "XMP", "IFrame", "NoScript", "Script", "SCRIPT", "scripT", "PlainText", "PLAINTEXT",
	" title", "title ", "title>", "</title", "<script", "script\x00", "\x00script", "ſcript", "ſtyle", "scr\u0131pt", "t\u0131tle", "title\xff", "\xff", "é", "＜", "noframe", "frameset", "object", "template", "svg", "math",
}

// fine: the signs that stand behind the name of an end tag.
var fine = []string{"\t", "\n", "\f", " ", "/", ">"}

// notFine: some that do not.
var notFine = []string{"\r", "\v", "\x00", "\x1f", "!", "-", "<", "=", "\"", "'", "?", ".", ":", "0", "9", "_", "a", "Z", "s", "\x7f", "\u0085", "\u00a0", "\u1680", "\u2003", "\u2028", "\u3000", "\ufeff", "＞", "／", "é", "\ufffd", "\U0001F600", "\xff", "\xe2\x82", "\xc0", "\x80"}

// answer is what Whole answers, but for its error.
type answer struct {
	content string
	size    int
	ended   bool
}

// whole: what Whole answers of a name that it takes.
func whole(t *testing.T, name, s string) answer {
	t.Helper()
	content, n, ended, e := raw.Whole(name, s)
	if e != api.OK {
		t.Fatalf("Whole(%s, %q): %d", name, s, e)
	}
	return answer{content, n, ended}
}

// stops: the signs that stand behind the name of an end tag, for a pattern.
const stops = "[\t\n\f />]"

// patterns: one fitting end tag of each name, in lower case.
var patterns = func() map[string]*regexp.Regexp {
	out := map[string]*regexp.Regexp{}
	for _, name := range all {
		out[name] = regexp.MustCompile("</" + name + stops)
	}
	return out
}()

// A tag of a script's name, of either kind.
var scripts = regexp.MustCompile("</?script" + stops)

// find: where the end tag that counts begins in a mended text; -1, if there is none.
func find(name, s string) int {
	low := names.Lower(s)
	switch name {
	case "plaintext":
		return -1
	case "script":
		return findScript(low)
	}
	if at := patterns[name].FindStringIndex(low); at != nil {
		return at[0]
	}
	return -1
}

// findScript: the same of script data, in lower case.
func findScript(s string) int {
	for at := 0; ; {
		end, begin := -1, strings.Index(s[at:], "<!--")
		if p := patterns["script"].FindStringIndex(s[at:]); p != nil {
			end = p[0]
		}
		if begin < 0 || end >= 0 && end < begin {
			if end < 0 {
				return -1
			}
			return at + end
		}
		from, to := at+begin, len(s)
		if close := strings.Index(s[from+2:], "-->"); close >= 0 { // the dashes of <!-- may be those of -->
			to = from + 2 + close + 3
		}
		if inside := findEscaped(s[from:to]); inside >= 0 {
			return from + inside
		}
		at = to
	}
}

// findEscaped: the same of an escaped part, from its <!-- on.
func findEscaped(s string) int {
	double := false
	for _, p := range scripts.FindAllStringIndex(s, -1) {
		closes := s[p[0]+1] == '/'
		switch {
		case closes && !double:
			return p[0]
		case closes:
			double = false
		default:
			double = true
		}
	}
	return -1
}

// model: what Whole answers, by the chapter's words.
func model(name, s string) answer {
	text := utf.Mend(s)
	at := find(name, text)
	if at < 0 {
		return answer{text, len(s), false}
	}
	ahead, _ := utf.Place([]byte(s), utf8.RuneCountInString(text[:at]))
	return answer{text[:at], ahead + len("</") + len(name) + 1, true}
}

// unsure: how many runes at the end of a text without an end may be the beginning of the end tag: what is missing of it makes one of them.
func unsure(name, s string) int {
	tag := "</" + name
	for n := 1; n <= len(tag) && n <= len(s); n++ {
		at := len(s) - n
		if names.Lower(s[at:]) == tag[:n] && find(name, s+tag[n:]+">") == at {
			return n
		}
	}
	return 0
}

// texts tells all texts of up to so many parts.
func texts(most int, parts []string, tell func(s string)) {
	var grow func(s string, left int)
	grow = func(s string, left int) {
		tell(s)
		if left == 0 {
			return
		}
		for _, p := range parts {
			grow(s+p, left-1)
		}
	}
	grow("", most)
}

// signs: what each state of script data does something of its own with.
var signs = []string{"<", "/", "!", "-", ">", "script", "ScR", "ipt", "x"}

// marks: the same, put together.
var marks = []string{"<!--", "-->", "<script>", "</script>", "<SCRIPT/", "</Script ", "<script", "</script", "--", "-", ">", "<", "<!", "<!-", "--!>", "x", "\xff", "<scriptx>"}

// pieces of a content that ends with an end tag of the name N, some of them odd.
var pieces = []string{"<", "</", "/", ">", "N", "</N", "</N>", "</n ", "</NS>", "<N>", "</N\xff", "<!--", "-->", "&lt;", "é", "\x00", "\xff", "\xe2\x82", "\xf0\x9f\x98", "x", " "}

// piecesOf: these pieces, for a name: N in any capitals, n in capitals all.
func piecesOf(name string) []string {
	mixed := strings.ToUpper(name[:1]) + name[1:len(name)-1] + strings.ToUpper(name[len(name)-1:])
	out := make([]string, len(pieces))
	for i, p := range pieces {
		out[i] = strings.NewReplacer("N", mixed, "n", strings.ToUpper(name)).Replace(p)
	}
	return out
}

// broken: bytes that are no UTF-8, and how many U+FFFD stand for them.
var broken = []struct {
	bytes string
	runes int
}{
	{"\xff", 1}, {"\x80", 1}, {"\xc3", 1}, {"\xe2\x82", 1}, {"\xf0\x9f\x98", 1}, {"\xc0\xaf", 2}, {"\xed\xa0\x80", 3}, {"\xf0\x80\x80", 3}, {"\xf4\x90\x80\x80", 4}, {"\xc0\xbc", 2}, {"\xe0\x80\xbc", 3},
}
