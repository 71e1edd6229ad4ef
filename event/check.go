package event

import (
	"sieve/api"
	"sieve/names"
	"sieve/token"
)

// Check: may an event be?
func Check(e api.Event) api.Errno {
	t, ok := asToken(e)
	if ok && token.Check(t) == api.OK && voidFits(e) {
		return api.OK
	}
	return api.ErrEventForm
}

// asToken: the token that says what an event says, and may be where it may, but for void names; none of a kind that is none.
func asToken(e api.Event) (api.Token, bool) {
	t := api.Token{Name: e.Name, Text: e.Text, Attrs: e.Attrs}
	switch e.Kind {
	case api.EventText:
		t.Kind = api.TokenText
	case api.EventOpen, api.EventVoid:
		t.Kind = api.TokenStart
	case api.EventClose:
		t.Kind = api.TokenEnd
	default:
		return api.Token{}, false
	}
	return t, true
}

// voidFits: is a void element one by its event just if it is one by its name?
func voidFits(e api.Event) bool {
	return !begins(e) || names.In(e.Name, api.SetVoid) == (e.Kind == api.EventVoid)
}
