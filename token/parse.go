package token

import (
	"strings"

	"sieve/api"
)

// Parse: the tokens of lines.
func Parse(s string) ([]api.Token, int, api.Errno) {
	var out []api.Token
	for number := 1; s != ""; number++ {
		line, rest, _ := strings.Cut(s, "\n")
		t, e := read(line)
		if e != api.OK {
			return nil, number, e
		}
		out = append(out, t)
		s = rest
	}
	return out, 0, api.OK
}

// read: the token of a line.
func read(line string) (t api.Token, e api.Errno) {
	defer func() {
		if recover() != nil {
			t, e = api.Token{}, api.ErrTokenForm
		}
	}()
	r := reader{line}
	return r.token(), api.OK
}

// reader goes through a line. It gives up by a panic as soon as Print tells no such line, from however deep inside.
type reader struct {
	rest string
}

// giveUp: the line is none.
func giveUp() { panic(api.ErrTokenForm) }

// token: that of the whole line.
func (r *reader) token() api.Token {
	t := api.Token{Kind: r.kind()}
	switch t.Kind {
	case api.TokenText, api.TokenComment:
		r.want(" ")
		t.Text = r.quoted()
	case api.TokenStart:
		r.want(" ")
		t.Name = r.quoted()
		t.Attrs, t.Self = r.behindName()
	case api.TokenEnd:
		r.want(" ")
		t.Name = r.quoted()
	}
	if r.rest != "" || Check(t) != api.OK {
		giveUp()
	}
	return t
}

// kind: that of the line's first word.
func (r *reader) kind() api.TokenKind {
	first, _, _ := strings.Cut(r.rest, " ")
	for kind, word := range words {
		if word == first {
			r.rest = r.rest[len(first):]
			return api.TokenKind(kind)
		}
	}
	giveUp()
	return 0
}

// behindName: a start tag's attributes, and whether it ends with the sign.
func (r *reader) behindName() (l []api.Attr, self bool) {
	for r.take(" ") {
		if r.take("/") {
			return l, true
		}
		var a api.Attr
		a.Name = r.quoted()
		r.want("=")
		a.Value = r.quoted()
		l = append(l, a)
	}
	return l, false
}

// quoted: the text of what stands QUOTED there.
func (r *reader) quoted() string {
	r.want(`"`)
	var out strings.Builder
	for {
		switch c := r.next(); c {
		case '"':
			return out.String()
		case '\\':
			out.WriteByte(r.escaped())
		case '\t': // Print tells it by its escape alone
			giveUp()
		default:
			out.WriteByte(c)
		}
	}
}

// escaped: the byte that an escape stands for.
func (r *reader) escaped() byte {
	c := r.next()
	switch c {
	case 'n':
		return '\n'
	case 't':
		return '\t'
	case '"', '\\':
		return c
	}
	giveUp()
	return 0
}

// next: the byte that stands there, which is taken.
func (r *reader) next() byte {
	if r.rest == "" {
		giveUp()
	}
	c := r.rest[0]
	r.rest = r.rest[1:]
	return c
}

// take: does the rest begin with s? If so, s is taken.
func (r *reader) take(s string) bool {
	rest, ok := strings.CutPrefix(r.rest, s)
	r.rest = rest
	return ok
}

// want: s stands there, and is taken.
func (r *reader) want(s string) {
	if !r.take(s) {
		giveUp()
	}
}
