package token

import (
	"strings"

	"sieve/api"
	"sieve/utf"
)

// Check: may a token be?
func Check(t api.Token) api.Errno {
	if fits(t) && valid(t) {
		return api.OK
	}
	return api.ErrTokenForm
}

// fits: are just those fields filled that its kind has, with names that may be?
func fits(t api.Token) bool {
	bare := len(t.Attrs) == 0 && !t.Self
	switch t.Kind {
	case api.TokenText:
		return bare && t.Name == "" && t.Text != ""
	case api.TokenStart:
		return tagName(t.Name) && t.Text == "" && attrNames(t.Attrs)
	case api.TokenEnd:
		return bare && tagName(t.Name) && t.Text == ""
	case api.TokenComment:
		return bare && t.Name == ""
	case api.TokenDoctype:
		return bare && t.Name == "" && t.Text == ""
	}
	return false
}

// tagName: may it be the name of a tag?
func tagName(s string) bool {
	return s != "" && s[0] >= 'a' && s[0] <= 'z' && lasting(s)
}

// attrNames: may these be the attributes of one tag, by their names?
func attrNames(l []api.Attr) bool {
	seen := map[string]int{}
	for _, a := range l {
		// A = at the beginning belongs to the name, by the standard's word; any other one would end it.
		if a.Name == "" || !lasting(a.Name) || strings.LastIndexByte(a.Name, '=') > 0 {
			return false
		}
		seen[a.Name]++
	}
	return len(seen) == len(l)
}

// enders: what ends a name, and U+0000, which a lexer replaces.
const enders = "\t\n\f />\x00"

// lasting: would a lexer read all of a name, and leave it as it is? (What it would not is below U+0080: no byte of a
// longer character is taken for it.)
func lasting(name string) bool {
	for at := range len(name) {
		if c := name[at]; c >= 'A' && c <= 'Z' || strings.IndexByte(enders, c) >= 0 {
			return false
		}
	}
	return true
}

// valid: are all its texts UTF-8?
func valid(t api.Token) bool {
	for _, a := range t.Attrs {
		if !isUtf(a.Name) || !isUtf(a.Value) {
			return false
		}
	}
	return isUtf(t.Name) && isUtf(t.Text)
}

// isUtf: is a text valid, as layer 1 has it?
func isUtf(s string) bool { return utf.Valid([]byte(s)) }
