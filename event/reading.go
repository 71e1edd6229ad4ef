package event

import (
	"iter"

	"sieve/api"
)

// reading goes through events, up to the first one that is wrong.
type reading struct {
	open stack[string] // the names of what is open around the next event
	at   int           // the number of the wrong event
	err  api.Errno     // what is wrong with it
}

// readAll: a reading that has gone through all.
func readAll(l []api.Event) reading {
	var r reading
	for range r.of(l) {
		continue
	}
	return r
}

// of tells the events that are not wrong, each with how many are open just ahead of it.
func (r *reading) of(l []api.Event) iter.Seq2[int, api.Event] {
	return func(yield func(int, api.Event) bool) {
		for at, e := range l {
			if err := r.wrong(e); err != api.OK {
				r.at, r.err = at, err
				return
			}
			if !yield(r.open.size(), e) {
				return
			}
			r.pass(e)
		}
	}
}

// wrong: what is wrong with the next event.
func (r *reading) wrong(e api.Event) api.Errno {
	if err := Check(e); err != api.OK {
		return err
	}
	if name, ok := r.open.top(); e.Kind == api.EventClose && (!ok || name != e.Name) {
		return api.ErrEventNest
	}
	return api.OK
}

// pass goes on behind an event that is not wrong.
func (r *reading) pass(e api.Event) {
	switch e.Kind {
	case api.EventOpen:
		r.open.push(e.Name)
	case api.EventClose:
		r.open.pop()
	}
}
