package token

import (
	"strings"

	"sieve/api"
)

// words: what a line begins with, by the token's kind.
var words = [...]string{
	api.TokenText:    "text",
	api.TokenStart:   "start",
	api.TokenEnd:     "end",
	api.TokenComment: "comment",
	api.TokenDoctype: "doctype",
}

// Print: a token as a line.
func Print(t api.Token) (string, api.Errno) {
	if e := Check(t); e != api.OK {
		return "", e
	}
	var out strings.Builder
	write(&out, t)
	return out.String(), api.OK
}

// List: tokens as lines.
func List(l ...api.Token) (string, api.Errno) {
	var out strings.Builder
	for _, t := range l {
		if e := Check(t); e != api.OK {
			return "", e
		}
		write(&out, t)
		out.WriteByte('\n')
	}
	return out.String(), api.OK
}

// write: the line of a token that may be.
func write(out *strings.Builder, t api.Token) {
	out.WriteString(words[t.Kind])
	switch t.Kind {
	case api.TokenStart, api.TokenEnd:
		out.WriteByte(' ')
		quote(out, t.Name)
	case api.TokenText, api.TokenComment:
		out.WriteByte(' ')
		quote(out, t.Text)
	}
	// What is no start tag has neither attributes nor the sign: it may not be with them.
	for _, a := range t.Attrs {
		out.WriteByte(' ')
		quote(out, a.Name)
		out.WriteByte('=')
		quote(out, a.Value)
	}
	if t.Self {
		out.WriteString(" /")
	}
}

// quote: a text, QUOTED.
func quote(out *strings.Builder, s string) {
	out.WriteByte('"')
	for at := range len(s) {
		switch c := s[at]; c {
		case '\n':
			out.WriteString(`\n`)
		case '\t':
			out.WriteString(`\t`)
		case '"', '\\':
			out.WriteByte('\\')
			out.WriteByte(c)
		default:
			out.WriteByte(c)
		}
	}
	out.WriteByte('"')
}
