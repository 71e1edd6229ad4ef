package token_test

import (
	"reflect"
	"regexp"
	"strings"
	"unicode/utf8"

	"sieve/api"
)

// place is one that is not zero.
var place = api.Place{Byte: 7, Line: 2, Col: 3}

func text(s string) api.Token { return api.Token{Kind: api.TokenText, Text: s} }

func start(name string, attrs ...api.Attr) api.Token {
	return api.Token{Kind: api.TokenStart, Name: name, Attrs: attrs}
}

func self(name string, attrs ...api.Attr) api.Token {
	return api.Token{Kind: api.TokenStart, Name: name, Attrs: attrs, Self: true}
}

func end(name string) api.Token { return api.Token{Kind: api.TokenEnd, Name: name} }

func comment(s string) api.Token { return api.Token{Kind: api.TokenComment, Text: s} }

func doctype() api.Token { return api.Token{Kind: api.TokenDoctype} }

func attr(name, value string) api.Attr { return api.Attr{Name: name, Value: value} }

// same: are two tokens the same, with their places, nil and empty lists being the same?
func same(a, b api.Token) bool {
	if len(a.Attrs) == 0 && len(b.Attrs) == 0 {
		a.Attrs, b.Attrs = nil, nil
	}
	return reflect.DeepEqual(a, b)
}

// sameAll: same, of lists.
func sameAll(a, b []api.Token) bool {
	if len(a) != len(b) {
		return false
	}
	for i := range a {
		if !same(a[i], b[i]) {
			return false
		}
	}
	return true
}

// The names that may be, by the chapter's words.
var (
	tagNames  = regexp.MustCompile(`(?s)^[a-z][^\t\n\f /A-Z>\x00]*$`)
	attrNames = regexp.MustCompile(`(?s)^(=|[^\t\n\f /A-Z>\x00=])[^\t\n\f /A-Z>\x00=]*$`)
)

// mayBe: may a token be, by the chapter's words?
func mayBe(t api.Token) bool {
	if !utf8.ValidString(t.Name) || !utf8.ValidString(t.Text) {
		return false
	}
	found := map[string]bool{}
	for _, a := range t.Attrs {
		if found[a.Name] || !utf8.ValidString(a.Name) || !utf8.ValidString(a.Value) || !attrNames.MatchString(a.Name) {
			return false
		}
		found[a.Name] = true
	}
	noAttrs, noSelf := len(t.Attrs) == 0, !t.Self
	switch t.Kind {
	case api.TokenText:
		return t.Text != "" && t.Name == "" && noAttrs && noSelf
	case api.TokenStart:
		return t.Text == "" && tagNames.MatchString(t.Name)
	case api.TokenEnd:
		return t.Text == "" && tagNames.MatchString(t.Name) && noAttrs && noSelf
	case api.TokenComment:
		return t.Name == "" && noAttrs && noSelf
	case api.TokenDoctype:
		return t.Name == "" && t.Text == "" && noAttrs && noSelf
	}
	return false
}

// quoted: QUOTED, by the chapter's words.
func quoted(s string) string {
	return `"` + strings.NewReplacer("\n", `\n`, "\t", `\t`, `"`, `\"`, `\`, `\\`).Replace(s) + `"`
}

// unquoted undoes it.
func unquoted(s string) string {
	return strings.NewReplacer(`\n`, "\n", `\t`, "\t", `\"`, `"`, `\\`, `\`).Replace(s)
}

// printed: the line of a token that may be, by the chapter's words.
func printed(t api.Token) string {
	out := []string{"text", "start", "end", "comment", "doctype"}[t.Kind]
	switch t.Kind {
	case api.TokenText, api.TokenComment:
		return out + " " + quoted(t.Text)
	case api.TokenEnd:
		return out + " " + quoted(t.Name)
	case api.TokenStart:
		out += " " + quoted(t.Name)
		for _, a := range t.Attrs {
			out += " " + quoted(a.Name) + "=" + quoted(a.Value)
		}
		if t.Self {
			out += " /"
		}
	}
	return out
}

const quotedForm = `"((?:[^"\\\n\t]|\\[nt"\\])*)"`

// What a line may look like, whatever its names are.
var (
	textLine  = regexp.MustCompile(`(?s)^(text|comment) ` + quotedForm + `$`)
	endLine   = regexp.MustCompile(`(?s)^end ` + quotedForm + `$`)
	startLine = regexp.MustCompile(`(?s)^start ` + quotedForm + `((?: ` + quotedForm + `=` + quotedForm + `)*)( /)?$`)
	attrPart  = regexp.MustCompile(`(?s) ` + quotedForm + `=` + quotedForm)
)

// parsed: the token of a line, by the chapter's words.
func parsed(line string) (api.Token, bool) {
	var t api.Token
	switch {
	case !utf8.ValidString(line):
		return t, false
	case line == "doctype":
		t = doctype()
	case textLine.MatchString(line):
		m := textLine.FindStringSubmatch(line)
		t = text(unquoted(m[2]))
		if m[1] == "comment" {
			t.Kind = api.TokenComment
		}
	case endLine.MatchString(line):
		t = end(unquoted(endLine.FindStringSubmatch(line)[1]))
	case startLine.MatchString(line):
		m := startLine.FindStringSubmatch(line)
		t = start(unquoted(m[1]))
		for _, a := range attrPart.FindAllStringSubmatch(m[2], -1) {
			t.Attrs = append(t.Attrs, attr(unquoted(a[1]), unquoted(a[2])))
		}
		t.Self = m[len(m)-1] != ""
	default:
		return t, false
	}
	return t, mayBe(t)
}

// parsedAll: what Parse answers, by the chapter's words.
func parsedAll(s string) ([]api.Token, int, api.Errno) {
	var out []api.Token
	lines := strings.Split(s, "\n")
	if lines[len(lines)-1] == "" { // nothing stands behind the last line feed: that is no line
		lines = lines[:len(lines)-1]
	}
	for i, line := range lines {
		t, ok := parsed(line)
		if !ok {
			return nil, i + 1, api.ErrTokenForm
		}
		out = append(out, t)
	}
	return out, 0, api.OK
}

// texts that are hard to quote, or no UTF-8.
var hard = []string{
	"x", " ", "\"", "\\", "\n", "\t", "\r", "\f", "\x00", "\x1b", "\x7f", "\u0085", "\ufffd", "\ufeff", "\u2028", "é", "€", "\U0001F600",
	"\\n", "\\t", "\\\"", "\\\\", "\\\\n", "\"\"", "\\\n", "n\\", "a\"b\\c\nd\te\rf", "<b>&amp;", "/", "=", "\" /", "\"=\"", "text \"x\"\ntext \"y\"",
}

var wrong = []string{"\xff", "\xc3", "a\xe2\x82", "\xed\xa0\x80", "\xc0\xaf", "\xf4\x90\x80\x80", "\x80x"}

// possible: tokens that may be, of every kind.
func possible() []api.Token {
	out := []api.Token{doctype(), comment(""), start("a"), self("a"), self("br", attr("class", "")), end("p"), end("h1"), end("a<b"), end(`a"\b`)}
	for _, s := range hard {
		out = append(out, text(s), comment(s), start("a", attr("b", s)), self("x", attr("y", s), attr("z", s)))
		if name := "a" + s; tagNames.MatchString(name) {
			out = append(out, start(name), self(name, attr("id", "1")), end(name))
		}
		if attrNames.MatchString(s) {
			out = append(out, start("a", attr(s, s)), self("a", attr("k", ""), attr(s, "v"), attr("="+strings.TrimPrefix(s, "="), "")))
		}
	}
	out = append(out, start("a", attr("=", "x")), start("a", attr("=b", ""), attr("b", ""), attr("=", "=")), start("a-b:c.d", attr("data-x", "1"), attr("<", "2"), attr(`"`, "3"), attr("'", "4"), attr(`\`, "5")))
	var may []api.Token
	for _, t := range out {
		if mayBe(t) {
			may = append(may, t)
		}
	}
	return may
}

// kinds: those that there are, and others.
var kinds = []api.TokenKind{api.TokenText, api.TokenStart, api.TokenEnd, api.TokenComment, api.TokenDoctype, -1, 5, 6, 1 << 40, -1 << 63, 1<<63 - 1}

// everyField: tokens of all kinds with all fields filled and empty, well and badly.
func everyField(tell func(api.Token)) {
	names := []string{"", "p", "P", "1", "é", "a b", "a<b", "p\xff"}
	texts := []string{"", "x", "\xff"}
	lists := [][]api.Attr{nil, {}, {attr("k", "v")}, {attr("", "v")}, {attr("k", "\xff")}, {attr("k\xff", "v")}, {attr("k", "1"), attr("l", "2")}, {attr("k", "1"), attr("k", "1")}, {attr("a", ""), attr("K", "")}}
	for _, kind := range kinds {
		for _, name := range names {
			for _, s := range texts {
				for _, l := range lists {
					for _, closed := range []bool{false, true} {
						tell(api.Token{Kind: kind, Name: name, Text: s, Attrs: l, Self: closed})
						tell(api.Token{Kind: kind, Name: name, Text: s, Attrs: l, Self: closed, At: place})
					}
				}
			}
		}
	}
}
