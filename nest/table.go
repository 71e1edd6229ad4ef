package nest

import (
	"sieve/api"
	"sieve/names"
)

// table is the nesting table, as one call goes by it, with what is being asked of a stack.
type table struct {
	places map[string]place
	looks  map[string]look // of the names met so far: a stack may be deep, but has few names
	left   []string        // of the stack, what is not closed
	in     []string        // what is put in
}

// place finds the place of its own that a name has.
type place func(t *table)

// look: a name, and what the sets and the places say of it.
type look struct {
	name                          string
	allowed, void, heading, block bool
	own                           place
}

func newTable() *table {
	return &table{places: places(), looks: map[string]look{}}
}

// places: of the names that have one of their own.
func places() map[string]place {
	return map[string]place{
		"li":       (*table).item,
		"dt":       (*table).term,
		"dd":       (*table).term,
		"caption":  (*table).part,
		"colgroup": (*table).part,
		"thead":    (*table).part,
		"tbody":    (*table).part,
		"tfoot":    (*table).part,
		"col":      (*table).column,
		"tr":       (*table).row,
		"td":       (*table).cell,
		"th":       (*table).cell,
	}
}

// look: what is known of a name.
func (t *table) look(name string) look {
	l, ok := t.looks[name]
	if ok {
		return l
	}
	own, ok := t.places[name]
	if !ok {
		own = (*table).stand
	}
	l = look{
		name:    name,
		allowed: names.In(name, api.SetAllow),
		void:    names.In(name, api.SetVoid),
		heading: names.In(name, api.SetHeading),
		block:   names.In(name, api.SetBlock),
		own:     own,
	}
	t.looks[name] = l
	return l
}

// right: is a stack right?
func (t *table) right(stack []string) bool {
	for at, name := range stack {
		l := t.look(name)
		if !l.allowed || l.void || !nothing(t.element(stack[:at], l)) {
			return false
		}
	}
	return true
}

// element: what the name of an element asks of a right stack.
func (t *table) element(stack []string, l look) api.Plan {
	t.left, t.in = stack, nil
	if t.top() == "textarea" {
		t.closeWith(len(t.left) - 1)
	}
	t.closeLike(l)
	l.own(t)
	return t.plan(stack)
}

// text: what a text that is not blank asks of a right stack.
func (t *table) text(stack []string) api.Plan {
	t.left, t.in = stack, nil
	t.stand()
	return t.plan(stack)
}

// plan: what was asked of a stack, all in all.
func (t *table) plan(stack []string) api.Plan {
	return api.Plan{Close: len(stack) - len(t.left), Insert: t.in}
}

// ended: where what an end tag closes begins in a right stack; -1 if it closes nothing.
func (t *table) ended(stack []string, name string) int {
	switch {
	case t.heading(name):
		return find(stack, t.heading, wall)
	case name == "table":
		return find(stack, is(name), never)
	case names.In(name, api.SetTable):
		return find(stack, is(name), is("table"))
	}
	// No right stack has a name of SetVoid: none is found.
	return find(stack, is(name), wall)
}
