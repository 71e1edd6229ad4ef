package raw

import (
	"unicode/utf8"

	"sieve/api"
	"sieve/names"
)

// part is where in a content a scanner stands: what ends it there, and what leads to another part.
type part int

const (
	notMade part = iota
	plain        // plain text: nothing ends it
	text         // RCDATA, raw text
	script       // script data outside of an escaped part
	escaped      // an escaped part that is not doubly escaped
	doubled      // a doubly escaped part
	ended        // its end tag has come
	over         // no rune follows
)

// begun is what may become something in a part, if the next runes go on with it.
type begun int

const (
	nothing   begun = iota
	less            // <
	endTag          // </ and a beginning of the name, where it may end the content
	word            // <, in a doubly escaped part </, and a beginning of the name
	bang            // <! in script data
	bangDash        // <!- in script data
	dash            // - in an escaped part
	twoDashes       // -- in an escaped part, and any number of - ahead of it
)

// Scanner scans a content, rune by rune.
type Scanner struct {
	part    part
	begun   begun
	name    []rune
	letters int    // of the name, how many have come, in what is begun
	sure    []byte // content that no Take has told
	held    []rune // what may be the beginning of the end tag
	end     rune   // of the end tag
}

// New: one that has been given nothing.
func New(name string) (*Scanner, api.Errno) {
	first := text
	switch Where(name) {
	case api.InData:
		return nil, api.ErrRawName
	case api.InScript:
		first = script
	case api.InPlaintext:
		first = plain
	}
	return &Scanner{part: first, name: []rune(name)}, api.OK
}

// Put: the next rune; is it the end of the end tag?
func (s *Scanner) Put(r rune) (bool, api.Errno) {
	if e := s.ready(); e != api.OK {
		return false, e
	}
	s.begun = s.step(r)
	return s.part == ended, api.OK
}

// Take: what is sure of the content, and has not been told.
func (s *Scanner) Take() string {
	if s == nil {
		return ""
	}
	out := string(s.sure)
	s.sure = nil
	return out
}

// Held: how many runes may be the beginning of the end tag.
func (s *Scanner) Held() int {
	if s == nil {
		return 0
	}
	return len(s.held)
}

// Ended: has the end tag come?
func (s *Scanner) Ended() bool {
	return s != nil && s.part == ended
}

// Rune: the end tag's end.
func (s *Scanner) Rune() rune {
	if s == nil {
		return 0
	}
	return s.end
}

// End: no rune follows.
func (s *Scanner) End() api.Errno {
	if e := s.ready(); e != api.OK {
		return e
	}
	s.release()
	s.part = over
	return api.OK
}

// ready: may it be given runes and ended?
func (s *Scanner) ready() api.Errno {
	switch {
	case s == nil || s.part == notMade:
		return api.ErrMade
	case s.part == ended || s.part == over:
		return api.ErrOver
	}
	return api.OK
}

// step: what is begun behind a rune. One that does not go on with what was begun is looked at again as one behind which
// nothing was.
func (s *Scanner) step(r rune) begun {
again:
	switch s.begun {
	case nothing:
		return s.begin(r)
	case endTag:
		if s.spells(r) {
			return s.hold(r, endTag)
		}
		if s.closes(r) {
			return s.finish(r)
		}
	case less:
		if r == '/' && s.part == doubled {
			return s.tell(r, word)
		}
		if r == '/' {
			return s.hold(r, endTag)
		}
		if r == '!' && s.part == script {
			return s.tell(r, bang)
		}
		if s.part != escaped {
			break
		}
		fallthrough
	case word:
		if s.spells(r) {
			return s.tell(r, word)
		}
		if s.closes(r) {
			s.part = s.otherPart()
			return s.tell(r, nothing)
		}
	case bang:
		if r == '-' {
			return s.tell(r, bangDash)
		}
	case bangDash:
		if r == '-' {
			s.part = escaped
			return s.tell(r, twoDashes)
		}
	case twoDashes:
		if r == '>' {
			s.part = script
			return s.tell(r, nothing)
		}
		fallthrough
	case dash:
		if r == '-' {
			return s.tell(r, twoDashes)
		}
	}
	s.release()
	s.begun = nothing
	goto again
}

// begin: what a rune begins, where nothing is begun.
func (s *Scanner) begin(r rune) begun {
	s.letters = 0
	switch s.part {
	case doubled:
		if r == '<' { // no end tag counts here: it is sure
			return s.tell(r, less)
		}
		fallthrough
	case escaped:
		if r == '-' {
			return s.tell(r, dash)
		}
		fallthrough
	case script, text:
		if r == '<' {
			return s.hold(r, less)
		}
	}
	return s.tell(r, nothing)
}

// spells: is a rune the next letter of the name? Then it is counted.
func (s *Scanner) spells(r rune) bool {
	if s.letters == len(s.name) || names.LowerRune(r) != s.name[s.letters] {
		return false
	}
	s.letters++
	return true
}

// closes: does a rune end a tag, whose name has come?
func (s *Scanner) closes(r rune) bool {
	return s.letters == len(s.name) && stops(r)
}

// otherPart: what a tag of the name in an escaped part leads to: it begins a doubly escaped one, or ends it.
func (s *Scanner) otherPart() part {
	if s.part == escaped {
		return doubled
	}
	return escaped
}

// finish: a rune is the end of the end tag that counts, which is no content.
func (s *Scanner) finish(r rune) begun {
	s.held = nil
	s.end = r
	s.part = ended
	return nothing
}

// hold: a rune may be part of the end tag.
func (s *Scanner) hold(r rune, next begun) begun {
	s.held = append(s.held, r)
	return next
}

// tell: a rune is content; so is what was held ahead of it.
func (s *Scanner) tell(r rune, next begun) begun {
	s.release()
	s.sure = utf8.AppendRune(s.sure, r) // of what is no character U+FFFD
	return next
}

// release: what was held is content.
func (s *Scanner) release() {
	for _, r := range s.held {
		s.sure = utf8.AppendRune(s.sure, r)
	}
	s.held = s.held[:0]
}
