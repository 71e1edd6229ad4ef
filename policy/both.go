package policy

import (
	"slices"

	"sieve/api"
)

// Join: what one of two policies allows.
func Join(a, b api.Policy) (api.Policy, api.Errno) {
	a, b, e := tidyBoth(a, b)
	if e != api.OK {
		return api.Policy{}, e
	}
	elements := joinElements(a.Elements, b.Elements)
	// What one drops the other may have: having it counts.
	dropped := slices.DeleteFunc(joinTexts(a.Drop, b.Drop), func(name string) bool { return elementAt(elements, name) >= 0 })
	return limited(api.Policy{
		Elements: elements,
		Global:   joinRules(a.Global, b.Global),
		Schemes:  joinTexts(a.Schemes, b.Schemes),
		Relative: a.Relative || b.Relative,
		Drop:     dropped,
		Depth:    max(a.Depth, b.Depth),
		Window:   max(a.Window, b.Window),
	})
}

// Within: does a policy allow all that another one allows?
func Within(a, b api.Policy) (bool, api.Errno) {
	a, b, e := tidyBoth(a, b)
	if e != api.OK {
		return false, e
	}
	return elementsWithin(a, b) &&
		len(meetTexts(a.Schemes, b.Schemes)) == len(a.Schemes) &&
		(b.Relative || !a.Relative) &&
		a.Depth <= b.Depth && a.Window <= b.Window, api.OK
}

// Meet: what both of two policies allow.
func Meet(a, b api.Policy) (api.Policy, api.Errno) {
	a, b, e := tidyBoth(a, b)
	if e != api.OK {
		return api.Policy{}, e
	}
	return limited(api.Policy{
		Elements: meetElements(a, b),
		Schemes:  meetTexts(a.Schemes, b.Schemes),
		Relative: a.Relative && b.Relative,
		Drop:     joinTexts(a.Drop, b.Drop), // none of these is an element of both
		Depth:    min(a.Depth, b.Depth),
		Window:   min(a.Window, b.Window),
	})
}

// tidyBoth: two policies in order, their words in small letters; or the first error.
func tidyBoth(a, b api.Policy) (api.Policy, api.Policy, api.Errno) {
	a, e := Tidy(a)
	if e != api.OK {
		return api.Policy{}, api.Policy{}, e
	}
	b, e = Tidy(b)
	return a, b, e
}

// limited: a policy in order, in memory of its own, if it has no more things than may be.
func limited(p api.Policy) (api.Policy, api.Errno) {
	if things(p) > api.MaxRules {
		return api.Policy{}, api.ErrPolicyLimit
	}
	return inOrder(p), api.OK
}

// joinElements: each element that one of two lists has, with the rules of both.
func joinElements(a, b []api.Element) []api.Element {
	var out []api.Element
	for _, e := range a {
		if at := elementAt(b, e.Name); at >= 0 {
			e.Rules = joinRules(e.Rules, b[at].Rules)
		}
		out = append(out, e)
	}
	for _, e := range b {
		if elementAt(a, e.Name) < 0 {
			out = append(out, e)
		}
	}
	return out
}

// joinRules: each rule that one of two lists has; the second list's, where both have one of that name.
func joinRules(a, b []api.Rule) []api.Rule {
	out := slices.Clone(b)
	in := byName(b)
	for _, r := range a {
		if _, ok := in[r.Name]; !ok {
			out = append(out, r)
		}
	}
	return out
}

// joinTexts: each text that one of two lists has.
func joinTexts(a, b []string) []string {
	return slices.Compact(slices.Sorted(slices.Values(slices.Concat(a, b))))
}

// meetTexts: each text that both of two lists have.
func meetTexts(a, b []string) []string {
	in := map[string]int{}
	for _, s := range b {
		in[s]++
	}
	return slices.DeleteFunc(slices.Clone(a), func(s string) bool { return in[s] == 0 })
}

// elementsWithin: has a policy each element of another one, and for each all rules that hold for it there?
func elementsWithin(a, b api.Policy) bool {
	for _, e := range a.Elements {
		at := elementAt(b.Elements, e.Name)
		if at < 0 {
			return false
		}
		of := byName(holding(b.Elements[at], b.Global))
		for _, r := range holding(e, a.Global) {
			other, ok := of[r.Name]
			if !ok || other.Kind != r.Kind || len(meetTexts(r.Words, other.Words)) < len(r.Words) {
				return false
			}
		}
	}
	return true
}

// meetElements: the elements that both of two policies have, with the rules that hold in both.
func meetElements(a, b api.Policy) []api.Element {
	var out []api.Element
	for _, e := range a.Elements {
		at := elementAt(b.Elements, e.Name)
		// What an element needs is in both, as they are valid: so none goes for want of another one.
		if at >= 0 {
			out = append(out, api.Element{Name: e.Name, Rules: meetRules(holding(e, a.Global), holding(b.Elements[at], b.Global))})
		}
	}
	return out
}

// meetRules: the rules for which both of two lists have one of that name and kind, with the words that both have.
func meetRules(a, b []api.Rule) []api.Rule {
	in := byName(b)
	var out []api.Rule
	for _, r := range a {
		other, ok := in[r.Name]
		if !ok || other.Kind != r.Kind {
			continue
		}
		r.Words = meetTexts(r.Words, other.Words)
		if r.Kind == api.ValueOneOf && len(r.Words) == 0 {
			continue
		}
		out = append(out, r)
	}
	return out
}
