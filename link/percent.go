package link

import (
	"strings"

	"sieve/api"
	"sieve/names"
	"sieve/utf"
)

// hexDigits: by what they count.
const hexDigits = "0123456789ABCDEF"

// Encode: a text with percent escapes for what may not stand in a link.
func Encode(s string) string {
	s = utf.Mend(s)
	var out strings.Builder
	for at := range len(s) {
		c := s[at]
		if turned(c) || c == '%' && !escaped(s[at:]) {
			writeEscape(&out, c)
		} else {
			out.WriteByte(c)
		}
	}
	return out.String()
}

// Decode: a text with its percent escapes as what they say.
func Decode(s string) string {
	s = utf.Mend(s)
	out := make([]byte, 0, len(s))
	for at := 0; at < len(s); at++ {
		c := s[at]
		if escaped(s[at:]) {
			c = byte(names.Value(rune(s[at+1]))<<4 | names.Value(rune(s[at+2])))
			at += 2
		}
		out = append(out, c)
	}
	return utf.Mend(string(out))
}

// Pairs: the pairs of a query.
func Pairs(query string) []api.Attr {
	var out []api.Attr
	for _, part := range strings.Split(utf.Mend(query), "&") {
		if part == "" {
			continue
		}
		name, value, _ := strings.Cut(part, "=")
		out = append(out, api.Attr{Name: unform(name), Value: unform(value)})
	}
	return out
}

// Query: the query of pairs.
func Query(l ...api.Attr) string {
	var out strings.Builder
	for i, a := range l {
		if i > 0 {
			out.WriteByte('&')
		}
		writeForm(&out, a.Name)
		out.WriteByte('=')
		writeForm(&out, a.Value)
	}
	return out.String()
}

// turned: is a byte one that Encode never leaves?
func turned(c byte) bool {
	return c <= 0x20 || c >= 0x7F || strings.IndexByte("\"<>\\^`{|}", c) >= 0
}

// escaped: does a text begin with a percent escape?
func escaped(s string) bool {
	return len(s) >= 3 && s[0] == '%' && names.Hex(rune(s[1])) && names.Hex(rune(s[2]))
}

// writeEscape: the escape of a byte.
func writeEscape(out *strings.Builder, c byte) {
	out.WriteByte('%')
	out.WriteByte(hexDigits[c>>4])
	out.WriteByte(hexDigits[c&15])
}

// unform: what a name or a value of a query says.
func unform(s string) string { return Decode(strings.ReplaceAll(s, "+", " ")) }

// writeForm: a name or a value as it stands in a query.
func writeForm(out *strings.Builder, s string) {
	s = utf.Mend(s)
	for at := range len(s) {
		switch c := s[at]; {
		case names.Letter(rune(c)) || names.Digit(rune(c)) || strings.IndexByte("*-._", c) >= 0:
			out.WriteByte(c)
		case c == ' ':
			out.WriteByte('+')
		default:
			writeEscape(out, c)
		}
	}
}
