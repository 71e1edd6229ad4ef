package event

import (
	"strings"

	"sieve/api"
)

// Merge: neighbouring texts in one, empty ones away.
func Merge(l ...api.Event) []api.Event {
	var out []api.Event
	for len(l) > 0 {
		texts := textsAhead(l)
		if texts == 0 {
			out = append(out, ownEvent(l[0]))
			l = l[1:]
			continue
		}
		if e := join(l[:texts]); e.Text != "" {
			out = append(out, e)
		}
		l = l[texts:]
	}
	return out
}

// textsAhead: how many texts events begin with.
func textsAhead(l []api.Event) int {
	n := 0
	for n < len(l) && l[n].Kind == api.EventText {
		n++
	}
	return n
}

// join: texts in one. What a text may not have stays as the first one that is not empty has it, since nothing is mended.
func join(texts []api.Event) api.Event {
	var first api.Event
	var all strings.Builder
	for _, e := range texts {
		if all.Len() == 0 {
			first = e
		}
		all.WriteString(e.Text)
	}
	first.Text = all.String()
	return ownEvent(first)
}

// Fold: the trees of complete events.
func Fold(l ...api.Event) ([]api.Node, api.Errno) {
	if err := complete(l); err != api.OK {
		return nil, err
	}
	rest := Merge(l...) // memory of its own, whose attributes the trees take
	var fold func() []api.Node
	// fold: the trees up to the event that closes what is around them, which is taken, or to the end.
	fold = func() []api.Node {
		var out []api.Node
		for len(rest) > 0 {
			e := rest[0]
			rest = rest[1:]
			switch e.Kind {
			case api.EventText:
				out = append(out, api.Node{Text: e.Text})
			case api.EventVoid:
				out = append(out, api.Node{Name: e.Name, Attrs: e.Attrs})
			case api.EventOpen:
				out = append(out, api.Node{Name: e.Name, Attrs: e.Attrs, Kids: fold()})
			case api.EventClose:
				return out
			}
		}
		return out
	}
	return fold(), api.OK
}

// complete: what keeps events from being complete.
func complete(l []api.Event) api.Errno {
	r := readAll(l)
	if r.err == api.OK && r.open.size() > 0 {
		return api.ErrEventNest
	}
	return r.err
}
