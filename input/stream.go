package input

import (
	"bytes"

	"sieve/api"
	"sieve/utf"
)

// Stream reads bytes that come in pieces.
type Stream struct {
	spot
	made  bool
	over  bool
	held  [4]byte // a CR, and up to three bytes of a character behind it; an array, so that a copy shares nothing
	count int     // of the bytes held
}

// New: one that has been fed nothing.
func New() *Stream { return &Stream{spot: beginning(), made: true} }

// Feed: the cells that are sure.
func (s *Stream) Feed(b []byte) ([]api.Cell, api.Errno) {
	if e := s.state(); e != api.OK {
		return nil, e
	}
	all := make([]byte, 0, s.count+len(b))
	all = append(append(all, s.held[:s.count]...), b...)
	sure := all[:len(all)-utf.Tail(all)]
	sure = bytes.TrimSuffix(sure, []byte{'\r'}) // an LF may follow, which belongs to it
	s.count = copy(s.held[:], all[len(sure):])
	return s.read(sure), api.OK
}

// End: what is left.
func (s *Stream) End() ([]api.Cell, api.Errno) {
	if e := s.state(); e != api.OK {
		return nil, e
	}
	left := s.read(s.held[:s.count])
	s.over = true
	s.count = 0
	return left, api.OK
}

// Place: where the next cell will stand.
func (s *Stream) Place() api.Place {
	if s == nil {
		return api.Place{}
	}
	return s.at
}

// state: may it be fed and ended?
func (s *Stream) state() api.Errno {
	switch {
	case s == nil || !s.made:
		return api.ErrMade
	case s.over:
		return api.ErrOver
	}
	return api.OK
}
