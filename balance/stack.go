package balance

import "sieve/api"

// stack is what is open, and what is too deep to be; it tells what becomes of it.
type stack struct {
	gathered
	names  []string // of the open elements, from the outside
	ghosts ghosts
	fresh  bool // directly behind the opening of a pre or textarea, where a parser leaves a line feed out
}

// close closes some elements, from the top.
func (s *stack) close(n int) {
	for range n {
		last := len(s.names) - 1
		s.stand(api.Event{Kind: api.EventClose, Name: s.names[last]})
		s.names = s.names[:last]
		// What was too deep has ended with what it stood in.
		s.ghosts = ghosts{}
	}
}

// open opens an element, whose attributes are the stack's own from here on.
func (s *stack) open(name string, attrs []api.Attr) {
	s.stand(api.Event{Kind: api.EventOpen, Name: name, Attrs: attrs})
	s.names = append(s.names, name)
	s.fresh = name == "pre" || name == "textarea"
}

// stand tells an event; no opening is directly ahead of what comes next.
func (s *stack) stand(e api.Event) {
	s.tell(e)
	s.fresh = false
}
