package event

import "slices"

// stack is what is open, one within the other.
type stack[T any] struct {
	list []T
}

// push opens one more.
func (s *stack[T]) push(v T) { s.list = append(s.list, v) }

// pop closes the last one, if there is one.
func (s *stack[T]) pop() {
	if n := len(s.list); n > 0 {
		s.list = s.list[:n-1]
	}
}

// top: the last one; false, if nothing is open.
func (s *stack[T]) top() (T, bool) {
	if n := len(s.list); n > 0 {
		return s.list[n-1], true
	}
	var none T
	return none, false
}

// size: how many are open.
func (s *stack[T]) size() int { return len(s.list) }

// all: what is open, from the outside.
func (s *stack[T]) all() []T { return slices.Clone(s.list) }
