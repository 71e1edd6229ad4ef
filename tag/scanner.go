package tag

import (
	"slices"

	"sieve/api"
	"sieve/charref"
	"sieve/names"
)

// state is where in a tag a scanner stands.
type state int

const (
	notMade      state = iota
	fresh              // directly behind the <
	behindMark         // behind the / that makes it an end tag
	inTagName          // of a start or end tag
	between            // ahead of an attribute or of the end
	behindSlash        // the same, directly behind a /
	inName             // of an attribute
	behindName         // ahead of its =, if one comes
	behindEquals       // ahead of its value
	inBare             // in a value without quotes
	inQuotes           // in a value with some
	ended              // its > has come
	refused            // no tag begins so
)

// Scanner takes a tag rune by rune, from what stands behind its < on.
type Scanner struct {
	state state
	count int            // of the runes it took
	text  []rune         // gathered of the name or the value that it stands in
	quote rune           // that ends the value
	name  string         // of the attribute whose name has ended
	skip  bool           // the attribute is left out: nothing of it need be gathered
	seen  map[string]int // how often the tag has attributes of a name
	token api.Token
}

// New: one that has been given nothing.
func New() *Scanner {
	return &Scanner{state: fresh, seen: map[string]int{}, token: api.Token{Kind: api.TokenStart}}
}

// Put: a rune more; does the tag end with it?
func (s *Scanner) Put(r rune) (bool, api.Errno) {
	if s == nil || s.state == notMade {
		return false, api.ErrMade
	}
	if s.state == ended || s.state == refused {
		return false, api.ErrOver
	}
	s.state = s.step(r)
	if s.state == refused {
		return false, api.ErrTagForm
	}
	s.count++
	if s.state != ended {
		return false, api.OK
	}
	s.text, s.seen = nil, nil // nothing asks for them any more
	return true, api.OK
}

// Token: the token of a tag that has ended.
func (s *Scanner) Token() (api.Token, bool) {
	if !s.Ended() {
		return api.Token{}, false
	}
	t := s.token
	t.Attrs = slices.Clone(t.Attrs)
	return t, true
}

// Runes: how many runes it took.
func (s *Scanner) Runes() int {
	if s == nil {
		return 0
	}
	return s.count
}

// Ended: has the tag ended?
func (s *Scanner) Ended() bool { return s != nil && s.state == ended }

// step: the state that a rune leads to. One that ends a state without belonging to it is consumed again in the next.
func (s *Scanner) step(r rune) state {
	switch s.state {
	case fresh, behindMark:
		return s.begin(r)
	case inTagName:
		goto inTagName
	case behindSlash:
		s.token.Self = r == '>' && s.token.Kind == api.TokenStart
		fallthrough
	case between:
		goto between
	case inName:
		goto inName
	case behindName:
		goto behindName
	default:
		if next, taken := s.stepValue(r); taken {
			return next
		}
		goto between
	}
inTagName:
	if !ends(r) {
		return s.gather(r, inTagName)
	}
	s.endTagName()
between:
	switch {
	case r == '>':
		return ended
	case r == '/':
		return behindSlash
	case names.Blank(r):
		return between
	}
	return s.gather(r, inName) // a = too: it ends a name, but may begin one
inName:
	if r != '=' && !ends(r) {
		return s.gather(r, inName)
	}
	s.endName()
behindName:
	switch {
	case r == '=':
		return behindEquals
	case names.Blank(r):
		return behindName
	}
	s.endAttr()
	goto between
}

// stepValue: step behind a = and in a value, and whether the rune was taken: the one that ends a value without quotes
// belongs to what stands between attributes.
func (s *Scanner) stepValue(r rune) (state, bool) {
	switch s.state {
	case inQuotes:
		goto inQuotes
	case inBare:
		goto inBare
	}
	switch {
	case r == '"' || r == '\'':
		s.quote = r
		return inQuotes, true
	case names.Blank(r):
		return behindEquals, true
	}
inBare: // a > directly behind the = ends an empty one
	if r != '>' && !names.Blank(r) {
		return s.gather(r, inBare), true
	}
	s.endAttr()
	return between, false
inQuotes:
	if r != s.quote {
		return s.gather(r, inQuotes), true
	}
	s.endAttr()
	return between, true
}

// begin: step ahead of the tag's name.
func (s *Scanner) begin(r rune) state {
	switch {
	case names.Letter(r):
		return s.gather(r, inTagName)
	case r == '/' && s.state == fresh:
		s.token.Kind = api.TokenEnd
		return behindMark
	}
	return refused
}

// ends: does a rune end every name?
func ends(r rune) bool { return r == '/' || r == '>' || names.Blank(r) }

// gather takes a rune of a name or a value, in the state that goes on with it.
func (s *Scanner) gather(r rune, in state) state {
	if r == 0 {
		r = api.Replacement
	}
	if !s.skip {
		s.text = append(s.text, r)
	}
	return in
}

// take: what was gathered; a rune that is no character has become U+FFFD.
func (s *Scanner) take() string {
	text := string(s.text)
	s.text = s.text[:0]
	return text
}

// endTagName: the tag's name has come to its end.
func (s *Scanner) endTagName() {
	s.token.Name = names.Lower(s.take())
	s.skip = s.full()
}

// endName: an attribute's name has come to its end.
func (s *Scanner) endName() {
	s.name = names.Lower(s.take())
	s.skip = s.skip || s.seen[s.name] > 0
}

// endAttr: an attribute has come to its end, its value with it.
func (s *Scanner) endAttr() {
	value := charref.Decode(s.take(), true)
	if !s.skip {
		s.seen[s.name]++
		s.token.Attrs = append(s.token.Attrs, api.Attr{Name: s.name, Value: value})
	}
	s.skip = s.full()
}

// full: does the tag have no more attributes, whatever comes?
func (s *Scanner) full() bool {
	return s.token.Kind == api.TokenEnd || len(s.token.Attrs) == api.MaxAttrs
}
