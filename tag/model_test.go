package tag_test

import (
	"slices"
	"strings"
	"unicode/utf8"

	"sieve/api"
	"sieve/charref"
	"sieve/tag"
	"sieve/utf"
)

// blanks, by the document's words.
const blanks = "\t\n\f "

func start(name string, attrs ...api.Attr) api.Token {
	return api.Token{Kind: api.TokenStart, Name: name, Attrs: attrs}
}

func self(name string, attrs ...api.Attr) api.Token {
	return api.Token{Kind: api.TokenStart, Name: name, Attrs: attrs, Self: true}
}

func end(name string) api.Token { return api.Token{Kind: api.TokenEnd, Name: name} }

func attr(name, value string) api.Attr { return api.Attr{Name: name, Value: value} }

// same: are two tokens the same in all their fields, nil and empty lists being the same?
func same(a, b api.Token) bool {
	return a.Kind == b.Kind && a.Name == b.Name && a.Text == b.Text && slices.Equal(a.Attrs, b.Attrs) && a.Self == b.Self && a.At == b.At
}

// answer is what Whole answers.
type answer struct {
	token api.Token
	size  int
	ended bool
	e     api.Errno
}

func whole(s string) answer {
	t, n, ok, e := tag.Whole(s)
	return answer{t, n, ok, e}
}

// is: are two answers the same?
func (a answer) is(b answer) bool {
	return same(a.token, b.token) && a.size == b.size && a.ended == b.ended && a.e == b.e
}

// lowered: in lower case, by chapter 4's words.
func lowered(s string) string {
	return strings.Map(func(r rune) rune {
		if strings.ContainsRune("ABCDEFGHIJKLMNOPQRSTUVWXYZ", r) {
			return r + 32
		}
		return r
	}, s)
}

// upTo: a text up to the first one of some runes, and the rest from there on; false, if it has none of them.
func upTo(s, ends string) (string, string, bool) {
	at := strings.IndexAny(s, ends)
	if at < 0 {
		return "", "", false
	}
	return s[:at], s[at:], true
}

// model: what Whole answers, by the chapter's words.
func model(s string) answer {
	text := strings.ReplaceAll(utf.Mend(s), "\x00", "\ufffd")
	rest, isEnd := strings.CutPrefix(text, "/")
	if rest == "" || !strings.Contains("abcdefghijklmnopqrstuvwxyz", lowered(rest[:1])) {
		return answer{e: api.ErrTagForm}
	}
	open := answer{size: len(s)}
	name, rest, ok := upTo(rest, blanks+"/>")
	if !ok {
		return open
	}
	all := answer{ended: true}
	all.token.Name = lowered(name)
	passed := ""
	var attrs []api.Attr
	for {
		behind := strings.TrimLeft(rest, blanks+"/")
		passed, rest = rest[:len(rest)-len(behind)], behind
		if strings.HasPrefix(rest, ">") {
			break
		}
		var a api.Attr
		if a, rest, ok = modelAttr(rest); !ok {
			return open
		}
		attrs = append(attrs, a)
	}
	all.size, _ = utf.Place([]byte(s), utf8.RuneCountInString(text[:len(text)-len(rest)+1]))
	if isEnd {
		all.token.Kind = api.TokenEnd
		return all
	}
	all.token.Kind = api.TokenStart
	all.token.Self = strings.HasSuffix(passed, "/")
	all.token.Attrs = kept(attrs)
	return all
}

// modelAttr: the attribute that a text begins with, and the rest behind it; false, if it does not end in it.
func modelAttr(s string) (api.Attr, string, bool) {
	if s == "" {
		return api.Attr{}, "", false
	}
	_, first := utf8.DecodeRuneInString(s)
	more, rest, ok := upTo(s[first:], blanks+"/>=")
	if !ok {
		return api.Attr{}, "", false
	}
	a := api.Attr{Name: lowered(s[:first] + more)}
	rest = strings.TrimLeft(rest, blanks)
	if !strings.HasPrefix(rest, "=") {
		return a, rest, true
	}
	rest = strings.TrimLeft(rest[1:], blanks)
	value := ""
	if strings.HasPrefix(rest, `"`) || strings.HasPrefix(rest, "'") {
		value, rest, ok = strings.Cut(rest[1:], rest[:1])
	} else {
		value, rest, ok = upTo(rest, blanks+">")
	}
	a.Value = charref.Decode(value, true)
	return a, rest, ok
}

// kept: the attributes that are not left out.
func kept(attrs []api.Attr) []api.Attr {
	var out []api.Attr
	has := map[string]bool{}
	for _, a := range attrs {
		if !has[a.Name] && len(out) < api.MaxAttrs {
			has[a.Name] = true
			out = append(out, a)
		}
	}
	return out
}

// texts tells all texts of up to so many parts.
func texts(most int, parts []string, tell func(s string)) {
	var grow func(s string, left int)
	grow = func(s string, left int) {
		tell(s)
		if left == 0 {
			return
		}
		for _, p := range parts {
			grow(s+p, left-1)
		}
	}
	grow("", most)
}

// signs: each state does something of its own with one of these.
var signs = []string{"a", "B", " ", "/", ">", "=", `"`, "'", "&"}

// pieces that are longer, or odd.
var pieces = []string{
	"p", "Q", "é", "É", "\x00", "\ufffd", "\xff", "\xe2\x82", "\xf0\x9f\x98", " ", "\t", "\n", "\f", "\r", "/", ">", "=", `"`, "'", "<", "&amp;", "&lt", "&not", "x=", `y="`, "\U0001F600",
}
