package filter

import (
	"unicode/utf8"

	"sieve/api"
	"sieve/input"
	"sieve/names"
	"sieve/policy"
	"sieve/value"
)

// step: what is done with a token: what is left of it, and what is found.
type step = func(f *Filter, t api.Token) (left []api.Token, found []api.Finding)

// steps: what is done with a token while nothing is being dropped, by its kind.
func steps() [api.TokenDoctype + 1]step {
	return [...]step{
		api.TokenText:    (*Filter).text,
		api.TokenStart:   (*Filter).start,
		api.TokenEnd:     (*Filter).end,
		api.TokenComment: (*Filter).comment,
		api.TokenDoctype: (*Filter).doctype,
	}
}

// drop: a token within an element that is being dropped.
func (f *Filter) drop(t api.Token) {
	switch {
	case t.Name != f.name: // a text, a comment and a doctype have none
	case t.Kind == api.TokenStart:
		f.depth++
	case t.Kind == api.TokenEnd:
		f.depth--
	}
	if f.depth == 0 {
		f.name = ""
	}
}

// text: a text stays, with what is plain of it.
func (f *Filter) text(t api.Token) (left []api.Token, found []api.Finding) {
	return []api.Token{{Kind: t.Kind, Text: input.Clean(t.Text), At: t.At}}, nil
}

// comment: no comment stays.
func (f *Filter) comment(t api.Token) (left []api.Token, found []api.Finding) {
	return nil, []api.Finding{{At: t.At, Why: api.WhyComment}}
}

// doctype: no doctype stays.
func (f *Filter) doctype(t api.Token) (left []api.Token, found []api.Finding) {
	return nil, []api.Finding{{At: t.At, Why: api.WhyDoctype}}
}

// end: an end tag stays, if its element is allowed.
func (f *Filter) end(t api.Token) (left []api.Token, found []api.Finding) {
	if _, ok := f.rules[t.Name]; ok {
		left = []api.Token{{Kind: t.Kind, Name: t.Name, At: t.At}}
	}
	return left, nil
}

// start: a start tag stays, with some of its attributes, if its element is allowed and it is not too long.
func (f *Filter) start(t api.Token) (left []api.Token, found []api.Finding) {
	if _, ok := f.rules[t.Name]; !ok {
		return nil, []api.Finding{{At: t.At, Why: f.refuse(t.Name), Name: t.Name}}
	}
	kept, found := f.attrs(t)
	if length(t.Name, kept) > f.rest.Window {
		return nil, append(found, api.Finding{At: t.At, Why: api.WhyWindow, Name: t.Name})
	}
	return []api.Token{{Kind: t.Kind, Name: t.Name, Attrs: kept, At: t.At}}, found
}

// refuse: why the start tag of an element that is not allowed is left out. From here on its content is dropped, too, if
// the policy has it so; a void element has none, and no end tag to wait for.
func (f *Filter) refuse(name string) api.Why {
	if names.In(name, api.SetVoid) || !policy.Dropped(f.rest, name) {
		return api.WhyElement
	}
	f.name, f.depth = name, 1
	return api.WhyContent
}

// attrs: the attributes of a start tag that stay, as they are written, and what is found of the others.
func (f *Filter) attrs(t api.Token) (kept []api.Attr, found []api.Finding) {
	for _, a := range t.Attrs {
		r, ok := f.rule(t.Name, a.Name)
		if !ok {
			found = append(found, api.Finding{At: t.At, Why: api.WhyAttr, Name: a.Name})
			continue
		}
		written, ok, e := value.Tidy(r, f.rest.Schemes, f.rest.Relative, a.Value)
		if !ok || e != api.OK {
			found = append(found, api.Finding{At: t.At, Why: api.WhyValue, Name: a.Name})
			continue
		}
		kept = append(kept, api.Attr{Name: a.Name, Value: written})
	}
	return kept, found
}

// rule: the rule for an attribute of an element that is allowed: its own goes ahead of one for all elements.
func (f *Filter) rule(element, attr string) (api.Rule, bool) {
	if r, ok := f.rules[element][attr]; ok {
		return r, true
	}
	r, ok := f.global[attr]
	return r, ok
}

// length: how many runes the canonical markup of a start tag has.
func length(name string, attrs []api.Attr) int {
	n := len("<>") + utf8.RuneCountInString(name)
	for _, a := range attrs {
		n += len(` =""`) + utf8.RuneCountInString(a.Name)
		for _, r := range a.Value {
			n += written(r)
		}
	}
	return n
}

// written: how many runes stand for a rune of a value in canonical markup.
func written(r rune) int {
	switch r {
	case '&':
		return len("&amp;")
	case '<', '>':
		return len("&lt;")
	case '"', '\u00A0':
		return len("&quot;")
	}
	return 1
}
