package policy_test

import (
	"fmt"
	"math/rand"
	"regexp"
	"slices"
	"strings"

	"sieve/api"
)

// What the chapter says, typed apart from the program: the elements that may be, what they need, attributes that may not be.
const (
	allowable = " a abbr b bdi bdo br cite code data del dfn em i img ins kbd label mark q s samp small span strong sub sup time u var wbr" +
		" address article aside blockquote center details dialog div dl dt dd figcaption figure footer h1 h2 h3 h4 h5 h6 header" +
		" hgroup hr li main menu nav ol p pre search section summary ul" +
		" table caption colgroup col thead tbody tfoot tr td th textarea "
	rawText    = " iframe noembed noframes noscript style xmp "
	neverAttrs = " action formaction is nonce ping slot srcdoc srcset style xmlns "
	linkAttrs  = " background cite href longdesc poster src "
	neverSeen  = " javascript data vbscript blob file filesystem about "
	needText   = "li: ul; ul: li; ol: li; menu: li; dt: dd dl; dd: dl; dl: dd; table: tbody td tr; caption: table tbody td tr; colgroup: table tbody td tr; thead: table tbody td tr; tbody: table td tr; tfoot: table tbody td tr; tr: table tbody td; td: table tbody tr; th: table tbody td tr; col: colgroup table tbody td tr"
)

var (
	tagForm    = regexp.MustCompile(`\A[a-z][a-z0-9]{0,99}\z`)
	attrForm   = regexp.MustCompile(`\A[a-z]([a-z0-9-]{0,98}[a-z0-9])?\z`)
	schemeForm = regexp.MustCompile(`\A[a-z][a-z0-9+.-]{0,99}\z`)
	wordForm   = regexp.MustCompile(`\A[!-~]{1,100}\z`)
	kindWords  = []string{"any", "tokens", "name", "number", "length", "link", "lang", "oneof", "flag"}
)

// among: is a name one of a text's words?
func among(text, name string) bool { return slices.Contains(strings.Fields(text), name) }

// needed: what an element needs, by the chapter.
func needed(name string) []string {
	for _, line := range strings.Split(needText, "; ") {
		if of, l, _ := strings.Cut(line, ": "); of == name {
			return strings.Fields(l)
		}
	}
	return nil
}

// rulesMay: may these be the rules of one list?
func rulesMay(l []api.Rule) bool {
	has := map[string]bool{}
	for _, r := range l {
		if has[r.Name] || !ruleMay(r) {
			return false
		}
		has[r.Name] = true
	}
	return true
}

// ruleMay: may a rule be, alone?
func ruleMay(r api.Rule) bool {
	for _, w := range r.Words {
		if !wordForm.MatchString(w) {
			return false
		}
	}
	return attrForm.MatchString(r.Name) && !strings.HasPrefix(r.Name, "on") && !among(neverAttrs, r.Name) &&
		r.Kind >= 0 && r.Kind <= 8 &&
		(r.Kind == 5 || !among(linkAttrs, r.Name)) &&
		(r.Kind == 7 && len(r.Words) > 0 || r.Kind != 7 && len(r.Words) == 0)
}

// errorOf: what Check answers, by the chapter's six points.
func errorOf(p api.Policy) api.Errno {
	has := map[string]bool{}
	for _, e := range p.Elements {
		if !among(allowable, e.Name) || has[e.Name] {
			return 140
		}
		has[e.Name] = true
		if !rulesMay(e.Rules) {
			return 141
		}
	}
	if !rulesMay(p.Global) {
		return 141
	}
	for name := range has {
		for _, n := range needed(name) {
			if !has[n] {
				return 142
			}
		}
	}
	for at, s := range p.Schemes {
		if !schemeForm.MatchString(s) || among(neverSeen, s) || slices.Contains(p.Schemes[:at], s) {
			return 143
		}
	}
	for at, s := range p.Drop {
		if !tagForm.MatchString(s) || has[s] || slices.Contains(p.Drop[:at], s) {
			return 140
		}
	}
	if p.Depth < 1 || p.Depth > 512 || p.Window < 16 || p.Window > 1048576 || count(p) > 1000 {
		return 144
	}
	return 0
}

// count: how many things a policy has.
func count(p api.Policy) int {
	all := slices.Clone(p.Global)
	for _, e := range p.Elements {
		all = append(all, e.Rules...)
	}
	n := len(p.Elements) + len(p.Schemes) + len(p.Drop) + len(all)
	for _, r := range all {
		n += len(r.Words)
	}
	return n
}

// ruleOf: the rule for an attribute of an element, by the chapter.
func ruleOf(p api.Policy, name, attr string) (api.Rule, bool) {
	for _, e := range p.Elements {
		if e.Name != name {
			continue
		}
		for _, r := range append(slices.Clone(e.Rules), p.Global...) {
			if r.Name == attr {
				return r, true
			}
		}
		return api.Rule{}, false
	}
	return api.Rule{}, false
}

// tidied: a valid policy in order, by the chapter.
func tidied(p api.Policy) api.Policy {
	byName := func(l []api.Rule) []api.Rule {
		m := map[string]api.Rule{}
		for _, r := range l {
			words := map[string]bool{}
			for _, w := range r.Words {
				words[strings.ToLower(w)] = true
			}
			m[r.Name] = api.Rule{Name: r.Name, Kind: r.Kind, Words: keys(words)}
		}
		var out []api.Rule
		for _, name := range keys(m) {
			out = append(out, m[name])
		}
		return out
	}
	m := map[string]api.Element{}
	for _, e := range p.Elements {
		m[e.Name] = api.Element{Name: e.Name, Rules: byName(e.Rules)}
	}
	out := api.Policy{Global: byName(p.Global), Schemes: slices.Clone(p.Schemes), Drop: slices.Clone(p.Drop), Relative: p.Relative, Depth: p.Depth, Window: p.Window}
	for _, name := range keys(m) {
		out.Elements = append(out.Elements, m[name])
	}
	slices.Sort(out.Schemes)
	slices.Sort(out.Drop)
	return out
}

// keys: a map's keys, rising.
func keys[V any](m map[string]V) []string {
	var out []string
	for k := range m {
		out = append(out, k)
	}
	slices.Sort(out)
	return out
}

// show: all of a policy, with nil and empty lists alike.
func show(p api.Policy) string {
	var out strings.Builder
	for _, e := range p.Elements {
		fmt.Fprintf(&out, "element %q%s\n", e.Name, showRules(e.Rules))
	}
	fmt.Fprintf(&out, "global%s\nschemes %q relative %v drop %q depth %d window %d", showRules(p.Global), p.Schemes, p.Relative, p.Drop, p.Depth, p.Window)
	return out.String()
}

// showRules: all of some rules, with nil and empty lists alike.
func showRules(l []api.Rule) string {
	var out strings.Builder
	for _, r := range l {
		fmt.Fprintf(&out, " [%q %d %q]", r.Name, r.Kind, r.Words)
	}
	return out.String()
}

// zero: is a policy the zero one (but for nil and empty lists)?
func zero(p api.Policy) bool { return show(p) == show(api.Policy{}) }

// small: elements without rules; Depth 1, Window 16.
func small(names ...string) api.Policy {
	p := api.Policy{Depth: 1, Window: 16}
	for _, n := range names {
		p.Elements = append(p.Elements, api.Element{Name: n})
	}
	return p
}

// rule: a rule of a kind, by the kind's number.
func rule(name string, kind int, words ...string) api.Rule {
	return api.Rule{Name: name, Kind: api.ValueKind(kind), Words: words}
}

// many: n rules with names of their own.
func many(n int) []api.Rule {
	var out []api.Rule
	for i := range n {
		out = append(out, rule(fmt.Sprintf("data-%d", i), 0))
	}
	return out
}

// manyWords: n words of their own.
func manyWords(n int) []string {
	var out []string
	for i := range n {
		out = append(out, fmt.Sprintf("w%04d", i))
	}
	return out
}

// groups: elements that are closed together.
var groups = []string{"b", "p", "i", "a", "img", "li ul", "ol li ul", "menu ul li", "dd dl", "dt dl dd", "table tbody tr td", "td tr tbody table th", "col colgroup table tbody tr td", "thead table tbody tr td", "caption tfoot td tr tbody table"}

// someRules: a few rules that may be, in any order.
func someRules(rnd *rand.Rand) []api.Rule {
	sets := [][]string{{"auto"}, {"LTR", "auto"}, {"rtl", "Auto", "ltr"}, {"x"}, {"X", "x", "A"}}
	var out []api.Rule
	for _, at := range rnd.Perm(5)[:rnd.Intn(4)] {
		switch at {
		case 0:
			out = append(out, rule("class", rnd.Intn(2)))
		case 1:
			out = append(out, rule("dir", 7, sets[rnd.Intn(len(sets))]...))
		case 2:
			out = append(out, rule("href", 5))
		case 3:
			out = append(out, rule("title", []int{0, 2, 8}[rnd.Intn(3)]))
		case 4:
			if rnd.Intn(2) == 0 {
				out = append(out, rule("lang", 6))
			} else {
				out = append(out, rule("lang", 7, "de", "EN"))
			}
		}
	}
	return out
}

// someValid: a valid policy, small, in any order.
func someValid(rnd *rand.Rand) api.Policy {
	p := api.Policy{Relative: rnd.Intn(2) == 0, Depth: 1 + rnd.Intn(4), Window: 16 + rnd.Intn(3)}
	has := map[string]bool{}
	for range rnd.Intn(5) {
		for _, name := range strings.Fields(groups[rnd.Intn(len(groups))]) {
			has[name] = true
		}
	}
	for _, name := range keys(has) {
		p.Elements = append(p.Elements, api.Element{Name: name, Rules: someRules(rnd)})
	}
	rnd.Shuffle(len(p.Elements), func(i, k int) { p.Elements[i], p.Elements[k] = p.Elements[k], p.Elements[i] })
	p.Global = someRules(rnd)
	for _, at := range rnd.Perm(4)[:rnd.Intn(4)] {
		p.Schemes = append(p.Schemes, []string{"http", "https", "mailto", "a+b"}[at])
	}
	for _, at := range rnd.Perm(5)[:rnd.Intn(4)] {
		if name := []string{"svg", "math", "b", "li", "script"}[at]; !has[name] {
			p.Drop = append(p.Drop, name)
		}
	}
	return p
}

// someAny: a policy that may be valid or not: one that is, with up to three things wrong, or twice there.
func someAny(rnd *rand.Rand) api.Policy {
	p := someValid(rnd)
	for range rnd.Intn(4) {
		spoil(rnd, &p)
	}
	return p
}

// spoil makes a policy wrong in one thing, most times.
func spoil(rnd *rand.Rand, p *api.Policy) {
	wrongRules := []api.Rule{rule("onx", 0), rule("style", 0), rule("href", 0), rule("class", 9), rule("class", -1), rule("class", 1), rule("dir", 7), rule("dir", 7, ""), rule("a", 0, "x"), rule("", 0), rule("\xff", 0), rule("a", 7, "\xff")}
	r := wrongRules[rnd.Intn(len(wrongRules))]
	switch rnd.Intn(9) {
	case 0:
		p.Elements = append(p.Elements, api.Element{Name: []string{"script", "", "B", "\xff", "x", "b", "style"}[rnd.Intn(7)], Rules: someRules(rnd)})
	case 1:
		p.Elements = append(p.Elements, api.Element{Name: []string{"li", "ol", "dt", "col", "td", "b"}[rnd.Intn(6)]})
	case 2:
		if len(p.Elements) > 0 {
			e := &p.Elements[rnd.Intn(len(p.Elements))]
			e.Rules = append(e.Rules, r)
		}
	case 3:
		p.Global = append(p.Global, r)
	case 4:
		p.Schemes = append(p.Schemes, []string{"javascript", "http", "HTTP", "", "a:b", "1"}[rnd.Intn(6)])
	case 5:
		p.Drop = append(p.Drop, []string{"b", "svg", "", "SVG", "a-b", "p"}[rnd.Intn(6)])
	case 6:
		p.Depth = []int{0, -1, 512, 513}[rnd.Intn(4)]
	case 7:
		p.Window = []int{15, 0, -16, 1 << 20, 1<<20 + 1}[rnd.Intn(5)]
	case 8:
		p.Global = append(p.Global, many(1000)...)
	}
}
