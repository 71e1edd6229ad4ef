package tag

import (
	"strings"

	"sieve/api"
	"sieve/names"
	"sieve/utf"
)

// Write: a tag as a text.
func Write(t api.Token) (string, api.Errno) {
	if t.Kind == api.TokenEnd {
		t.Attrs, t.Self = nil, false
	}
	if !mayBe(t) {
		return "", api.ErrTagForm
	}
	var out strings.Builder
	out.WriteByte('<')
	if t.Kind == api.TokenEnd {
		out.WriteByte('/')
	}
	out.WriteString(t.Name)
	for _, a := range t.Attrs {
		out.WriteString(" " + a.Name + `="` + escaped(a.Value) + `"`)
	}
	if t.Self {
		out.WriteString(" /")
	}
	out.WriteByte('>')
	return out.String(), api.OK
}

// List: attributes as a text.
func List(l ...api.Attr) (string, api.Errno) {
	text, e := Write(api.Token{Kind: api.TokenStart, Name: "a", Attrs: l})
	if e != api.OK {
		return "", e
	}
	text = strings.TrimPrefix(text, "<a")
	text = strings.TrimPrefix(text, " ")
	return strings.TrimSuffix(text, ">"), api.OK
}

// escaped: a value as it stands between two quotes.
func escaped(value string) string {
	return strings.ReplaceAll(strings.ReplaceAll(value, "&", "&amp;"), `"`, "&quot;")
}

// mayBe: is it a tag that a scanner tells, with any number of attributes?
func mayBe(t api.Token) bool {
	if t.Kind != api.TokenStart && t.Kind != api.TokenEnd {
		return false
	}
	if t.Name == "" || !names.Letter(rune(t.Name[0])) || !lasting(t.Name) {
		return false
	}
	seen := map[string]int{}
	for _, a := range t.Attrs {
		if !attrName(a.Name) || !written(a.Value) {
			return false
		}
		seen[a.Name]++
	}
	return len(seen) == len(t.Attrs)
}

// attrName: may it be the name of an attribute?
func attrName(s string) bool {
	return s != "" && lasting(s) && strings.LastIndexByte(s, '=') < 1
}

// lasting: would a scanner read all of a name, and leave it as it is?
func lasting(name string) bool {
	for _, r := range name {
		if ends(r) || names.Upper(r) {
			return false
		}
	}
	return written(name)
}

// written: is it a text that a scanner makes: valid, and without U+0000?
func written(s string) bool {
	return utf.Valid([]byte(s)) && strings.IndexByte(s, 0) < 0
}
