package markup

import (
	"unicode/utf8"

	"sieve/api"
)

// state is where in its markup a scanner stands.
type state int

const (
	notMade     state = iota
	inDoctype         // what it says is nothing
	inBogus           // all up to a > is what it says
	fresh             // at the very beginning of a comment
	behindFirst       // the same, behind a -
	inside            // of a comment
	behindDash        // behind a - that is not at the very beginning
	behindTwo         // behind -- and any number of - ahead of it
	behindBang        // behind --!
	over              // its end has come, or no more will
)

// Scanner scans one of them, rune by rune.
type Scanner struct {
	state state
	// text is what it says so far. The "-", "--" or "--!" that a comment stands behind is not in it: it is part of the
	// end, or of nothing, if no rune comes that makes it part of the comment.
	text []byte
}

// New: one that has been fed nothing.
func New(kind int) (*Scanner, api.Errno) {
	switch kind {
	case Comment:
		return &Scanner{state: fresh}, api.OK
	case Doctype:
		return &Scanner{state: inDoctype}, api.OK
	case Bogus:
		return &Scanner{state: inBogus}, api.OK
	}
	return nil, api.ErrArg
}

// Put: the next rune; is it over?
func (s *Scanner) Put(r rune) (bool, api.Errno) {
	if e := s.ready(); e != api.OK {
		return false, e
	}
	s.state = s.step(r)
	return s.state == over, api.OK
}

// End: the input is over.
func (s *Scanner) End() api.Errno {
	if e := s.ready(); e != api.OK {
		return e
	}
	s.state = over
	return api.OK
}

// Text: what it says so far.
func (s *Scanner) Text() string {
	if s == nil {
		return ""
	}
	return string(s.text)
}

// ready: may it be fed and ended?
func (s *Scanner) ready() api.Errno {
	switch {
	case s == nil || s.state == notMade:
		return api.ErrMade
	case s.state == over:
		return api.ErrOver
	}
	return api.OK
}

// step: the state that a rune leads to. One that does not go on with dashes makes them part of the comment, and is
// looked at again as any rune inside it.
func (s *Scanner) step(r rune) state {
again:
	switch s.state {
	case inBogus:
		if r != '>' {
			s.say(r)
		}
		fallthrough
	case inDoctype:
		if r == '>' {
			return over
		}
		return s.state
	case fresh:
		switch r {
		case '>':
			return over
		case '-':
			return behindFirst
		}
		fallthrough
	case inside:
		if r == '-' {
			return behindDash
		}
		s.say(r)
		return inside
	case behindFirst:
		if r == '>' {
			return over
		}
		fallthrough
	case behindDash:
		if r == '-' {
			return behindTwo
		}
		s.say('-')
	case behindTwo:
		switch r {
		case '>':
			return over
		case '!':
			return behindBang
		case '-': // the last two may begin the end: the one ahead of them can't any more
			s.say('-')
			return behindTwo
		}
		s.say('-', '-')
	case behindBang:
		if r == '>' {
			return over
		}
		s.say('-', '-', '!')
	}
	s.state = inside
	goto again
}

// say: runes more of what it says; of what is no character U+FFFD.
func (s *Scanner) say(runes ...rune) {
	for _, r := range runes {
		s.text = utf8.AppendRune(s.text, r)
	}
}
