package chunk

import (
	"bytes"
	"iter"

	"sieve/api"
)

// Source tells a script's bytes.
type Source struct {
	made  bool
	steps []api.Step // never changed, so that copies of a source may share them
	at    int        // the step at hand
	part  int        // how many of its bytes have been told
	told  int
}

// New: a source at its script's beginning.
func New(l []api.Step) (*Source, api.Errno) {
	if large(l) {
		return nil, api.ErrChunkLarge
	}
	return &Source{made: true, steps: reached(l)}, api.OK
}

// Read: the next bytes, at most n, of the step at hand.
func (s *Source) Read(n int) ([]byte, api.Errno) {
	switch {
	case !s.isMade():
		return nil, api.ErrMade
	case n < 1:
		return nil, api.ErrArg
	case s.at == len(s.steps):
		return nil, api.ErrChunkEnd
	case s.failed():
		return nil, api.ErrChunkRead
	}
	step := s.steps[s.at]
	left := step.Data[s.part:]
	data := bytes.Clone(left[:min(n, len(left))])
	s.told += len(data)
	s.part += len(data)
	if s.part == len(step.Data) && !step.Fail {
		s.at++
		s.part = 0
	}
	return data, api.OK
}

// Told: how many bytes have been told.
func (s *Source) Told() int {
	if !s.isMade() {
		return 0
	}
	return s.told
}

// Over: is there nothing more to be read?
func (s *Source) Over() bool {
	return !s.isMade() || s.at == len(s.steps) || s.failed()
}

// All: what Read tells, again and again.
func (s *Source) All(n int) iter.Seq2[[]byte, api.Errno] {
	made := s.isMade()
	return func(yield func([]byte, api.Errno) bool) {
		for made {
			data, e := s.Read(n)
			if !yield(data, e) || e != api.OK {
				return
			}
		}
	}
}

// isMade: did New make it?
func (s *Source) isMade() bool { return s != nil && s.made }

// failed: are all bytes told of a step that fails? (There is a step at hand.)
func (s *Source) failed() bool {
	step := s.steps[s.at]
	return step.Fail && s.part == len(step.Data)
}
