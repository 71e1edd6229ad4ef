package policy

import (
	"slices"
	"strings"

	"sieve/api"
	"sieve/names"
)

// Tidy: a policy in order.
func Tidy(p api.Policy) (api.Policy, api.Errno) {
	if e := Check(p); e != api.OK {
		return api.Policy{}, e
	}
	return inOrder(p), api.OK
}

// inOrder: a policy in order, in memory of its own.
func inOrder(p api.Policy) api.Policy {
	p = copyPolicy(p)
	slices.SortFunc(p.Elements, func(a, b api.Element) int { return strings.Compare(a.Name, b.Name) })
	for _, e := range p.Elements {
		orderRules(e.Rules)
	}
	orderRules(p.Global)
	slices.Sort(p.Schemes)
	slices.Sort(p.Drop)
	return p
}

// orderRules puts rules in order, and their words.
func orderRules(l []api.Rule) {
	slices.SortFunc(l, func(a, b api.Rule) int { return strings.Compare(a.Name, b.Name) })
	for at, r := range l {
		l[at].Words = orderWords(r.Words)
	}
}

// orderWords: words in small letters, rising, each once.
func orderWords(l []string) []string {
	var out []string
	for _, w := range l {
		out = append(out, names.Lower(w))
	}
	slices.Sort(out)
	return slices.Compact(out)
}
