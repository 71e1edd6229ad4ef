package policy

import (
	"sieve/api"
	"sieve/link"
	"sieve/names"
)

// never: the attributes that no policy may allow, since no rule of a value can make safe what they send, fetch, style or turn an element into.
var never = [...]string{"action", "formaction", "is", "nonce", "ping", "slot", "srcdoc", "srcset", "style", "xmlns"}

// links: the attributes that browsers read as links.
var links = [...]string{"background", "cite", "href", "longdesc", "poster", "src"}

// Check: is a policy valid? The error of the first thing that is wrong.
func Check(p api.Policy) api.Errno {
	for _, part := range parts() {
		if e := part(p); e != api.OK {
			return e
		}
	}
	return api.OK
}

// parts: what must hold of a policy, in the order in which it is looked at.
func parts() []func(api.Policy) (e api.Errno) {
	return []func(api.Policy) (e api.Errno){elementsHold, globalHolds, needsHold, schemesHold, dropHolds, limitsHold}
}

// elementsHold: may each element be, and each of its rules?
func elementsHold(p api.Policy) (e api.Errno) {
	seen := map[string]int{}
	for _, el := range p.Elements {
		seen[el.Name]++
		if seen[el.Name] > 1 || !names.In(el.Name, api.SetAllow) {
			return api.ErrPolicyElement
		}
		if !rulesMayBe(el.Rules) {
			return api.ErrPolicyAttr
		}
	}
	return e
}

// globalHolds: may each rule for all elements be?
func globalHolds(p api.Policy) (e api.Errno) {
	if !rulesMayBe(p.Global) {
		e = api.ErrPolicyAttr
	}
	return e
}

// needsHold: are all elements there that the elements need?
func needsHold(p api.Policy) (e api.Errno) {
	if len(missing(p.Elements)) > 0 {
		e = api.ErrPolicyClosed
	}
	return e
}

// schemesHold: may each scheme be, and does it stand once?
func schemesHold(p api.Policy) (e api.Errno) {
	seen := map[string]int{}
	for _, s := range p.Schemes {
		seen[s]++
		if seen[s] > 1 || link.Check(s) != api.OK {
			return api.ErrPolicyScheme
		}
	}
	return e
}

// dropHolds: may each name that is dropped be, and does it stand once?
func dropHolds(p api.Policy) (e api.Errno) {
	seen := map[string]int{}
	for _, name := range elementNames(p.Elements) {
		seen[name]++
	}
	for _, name := range p.Drop {
		seen[name]++
		if seen[name] > 1 || !names.TagName(name) {
			return api.ErrPolicyElement
		}
	}
	return e
}

// limitsHold: are the depth, the window and the number of things within their limits?
func limitsHold(p api.Policy) (e api.Errno) {
	if p.Depth < 1 || p.Depth > api.MaxDepth || p.Window < api.MinWindow || p.Window > api.MaxWindow || things(p) > api.MaxRules {
		e = api.ErrPolicyLimit
	}
	return e
}

// things: how many elements, rules, words, schemes and dropped names a policy has.
func things(p api.Policy) int {
	n := len(p.Elements) + ruleThings(p.Global) + len(p.Schemes) + len(p.Drop)
	for _, e := range p.Elements {
		n += ruleThings(e.Rules)
	}
	return n
}

// ruleThings: how many rules and words there are.
func ruleThings(l []api.Rule) int {
	n := len(l)
	for _, r := range l {
		n += len(r.Words)
	}
	return n
}

// rulesMayBe: may these be the rules of one list?
func rulesMayBe(l []api.Rule) bool {
	seen := map[string]int{}
	for _, r := range l {
		seen[r.Name]++
		if seen[r.Name] > 1 || !attrMayBe(r.Name) || !kindMayBe(r) || !wordsMayBe(r) {
			return false
		}
	}
	return true
}

// attrMayBe: may a policy allow attributes of that name?
func attrMayBe(name string) bool {
	for _, n := range never {
		if n == name {
			return false
		}
	}
	return names.AttrName(name) && !names.Event(name)
}

// kindMayBe: is a rule's kind one of api's, and one that its name may have?
func kindMayBe(r api.Rule) bool {
	for _, n := range links {
		if n == r.Name {
			return r.Kind == api.ValueLink
		}
	}
	return r.Kind >= api.ValueAny && r.Kind <= api.ValueFlag
}

// wordsMayBe: has a rule words just if its kind has, and such as may be?
func wordsMayBe(r api.Rule) bool {
	for _, w := range r.Words {
		if !wordMayBe(w) {
			return false
		}
	}
	return (r.Kind == api.ValueOneOf) == (len(r.Words) > 0)
}

// wordMayBe: is a word some bytes of ASCII without controls and spaces?
func wordMayBe(w string) bool {
	if w == "" || len(w) > api.MaxName {
		return false
	}
	for at := range len(w) {
		if w[at] < 0x21 || w[at] > 0x7E {
			return false
		}
	}
	return true
}
