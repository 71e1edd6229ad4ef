package policy

import (
	"slices"

	"sieve/api"
)

// needs: what elements need beside them, by their names, rising.
func needs() map[string][]string {
	return map[string][]string{
		"li":       {"ul"},
		"ul":       {"li"},
		"ol":       {"li"},
		"menu":     {"li"},
		"dt":       {"dd", "dl"},
		"dd":       {"dl"},
		"dl":       {"dd"},
		"table":    {"tbody", "td", "tr"},
		"caption":  {"table", "tbody", "td", "tr"},
		"colgroup": {"table", "tbody", "td", "tr"},
		"thead":    {"table", "tbody", "td", "tr"},
		"tbody":    {"table", "td", "tr"},
		"tfoot":    {"table", "tbody", "td", "tr"},
		"tr":       {"table", "tbody", "td"},
		"td":       {"table", "tbody", "tr"},
		"th":       {"table", "tbody", "td", "tr"},
		"col":      {"colgroup", "table", "tbody", "td", "tr"},
	}
}

// Needs: what an element needs.
func Needs(name string) []string { return copyTexts(needs()[name]) }

// Close: a policy with all elements that its elements need.
func Close(p api.Policy) api.Policy {
	p = copyPolicy(p)
	for _, name := range missing(p.Elements) {
		p.Elements = append(p.Elements, api.Element{Name: name})
	}
	return p
}

// missing: what elements need that is not among them, rising.
func missing(l []api.Element) []string {
	all := elementNames(l)
	seen := map[string]int{}
	for _, name := range all {
		seen[name]++
	}
	table := needs()
	// What is missing is gone through, too: it may need more.
	for at := 0; at < len(all); at++ {
		for _, need := range table[all[at]] {
			if seen[need] == 0 {
				all = append(all, need)
			}
			seen[need]++
		}
	}
	return slices.Sorted(slices.Values(all[len(l):]))
}

// elementNames: the names of elements, in their order.
func elementNames(l []api.Element) []string {
	var out []string
	for _, e := range l {
		out = append(out, e.Name)
	}
	return out
}
