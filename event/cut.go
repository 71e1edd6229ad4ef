package event

import (
	"strings"

	"sieve/api"
)

// Trim: without what stands too deep.
func Trim(depth int, l ...api.Event) ([]api.Event, api.Errno) {
	if depth < 0 {
		return nil, api.ErrArg
	}
	var r reading
	var out []api.Event
	for around, e := range r.of(l) {
		// More than depth around it are an element that goes, with what is in it, its closing too.
		if around < depth || around == depth && !begins(e) {
			out = append(out, ownEvent(e))
		}
	}
	if r.err != api.OK {
		return nil, r.err
	}
	return out, api.OK
}

// Wrap: in an element.
func Wrap(name string, attrs []api.Attr, l ...api.Event) ([]api.Event, api.Errno) {
	opening := api.Event{Kind: api.EventOpen, Name: name, Attrs: attrs}
	if err := Check(opening); err != api.OK {
		return nil, err
	}
	if err := complete(l); err != api.OK {
		return nil, err
	}
	out := []api.Event{ownEvent(opening)}
	out = append(out, ownAll(l)...)
	return append(out, closing(name)), api.OK
}

// Paths: where each element stands.
func Paths(l ...api.Event) ([]string, api.Errno) {
	var r reading
	var out []string
	for _, e := range r.of(l) {
		if begins(e) {
			out = append(out, strings.Join(append(r.open.all(), e.Name), "/"))
		}
	}
	if r.err != api.OK {
		return nil, r.err
	}
	return out, api.OK
}
