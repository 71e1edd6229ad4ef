package policy_test

import (
	"fmt"
	"math"
	"math/rand"
	"strings"
	"testing"

	"sieve/api"
	"sieve/names"
	"sieve/policy"
)

// checks holds Check's answer of a policy against one that is said, and against the chapter's six points.
func checks(t *testing.T, p api.Policy, want api.Errno) {
	t.Helper()
	if e := policy.Check(p); e != want || errorOf(p) != want {
		t.Errorf("Check: %d, not %d (by the words: %d):\n%.500s", e, want, errorOf(p), show(p))
	}
}

// ruled: a policy of one element with rules of its own.
func ruled(l ...api.Rule) api.Policy {
	p := small("b")
	p.Elements[0].Rules = l
	return p
}

// everywhere holds rules, as an element's own and as those for all, against what Check is to say.
func everywhere(t *testing.T, want api.Errno, l ...api.Rule) {
	t.Helper()
	checks(t, ruled(l...), want)
	p := small("b")
	p.Global = l
	checks(t, p, want)
	p = small()
	p.Global = l
	checks(t, p, want)
	p = ruled(rule("title", 0))
	p.Elements = append(p.Elements, api.Element{Name: "i", Rules: l})
	checks(t, p, want)
}

// P14.1: the chapter's examples.
func TestCheckExamples(t *testing.T) {
	checks(t, small("li"), api.ErrPolicyClosed)
	checks(t, policy.Close(small("li")), api.OK)
	checks(t, small("script"), api.ErrPolicyElement)
	everywhere(t, api.ErrPolicyAttr, rule("onclick", 0))
	everywhere(t, api.ErrPolicyAttr, rule("style", 0))
	everywhere(t, api.ErrPolicyAttr, rule("href", 0))
}

// P14.1: policies of nothing: Depth and Window are what the zero one lacks.
func TestCheckNothing(t *testing.T) {
	checks(t, api.Policy{}, api.ErrPolicyLimit)
	checks(t, api.Policy{Depth: 1}, api.ErrPolicyLimit)
	checks(t, api.Policy{Window: 16}, api.ErrPolicyLimit)
	checks(t, small(), api.OK)
	checks(t, api.Policy{Elements: []api.Element{}, Global: []api.Rule{}, Schemes: []string{}, Drop: []string{}, Depth: 1, Window: 16}, api.OK)
}

// P14.1, P14.12: each known name, and others; just those of SetAllow may be.
func TestCheckElementNames(t *testing.T) {
	others := []string{"", " ", "B", "bB", "b ", "\xff", "b\xff", "é", "x", "svg", "math", "template", "script", "plaintext", "title", "style", "my-tag", "h7", "h", "b\n", strings.Repeat("b", 101), "a abbr"}
	n := 0
	for _, name := range append(names.Known(), others...) {
		p := policy.Close(small(name))
		want := api.ErrPolicyElement
		if among(allowable, name) {
			want = api.OK
			n++
		}
		checks(t, p, want)
		for _, around := range []string{"a b", "i"} {
			p = small(strings.Fields(around)...)
			p.Elements = append(p.Elements, policy.Close(small(name)).Elements...)
			if name != "a" && name != "b" && name != "i" {
				checks(t, p, want)
			}
		}
	}
	if n != 75 {
		t.Errorf("%d elements may be", n)
	}
	for _, name := range strings.Fields(rawText + " script title svg math template") {
		checks(t, small(name), api.ErrPolicyElement)
	}
}

// P14.1: an element that stands twice, wherever.
func TestCheckElementTwice(t *testing.T) {
	checks(t, small("b", "b"), api.ErrPolicyElement)
	checks(t, small("b", "i", "b"), api.ErrPolicyElement)
	checks(t, small("p", "b", "i", "u", "i"), api.ErrPolicyElement)
	checks(t, small("p", "b", "i", "u"), api.OK)
	p := ruled(rule("title", 0))
	p.Elements = append(p.Elements, api.Element{Name: "b", Rules: []api.Rule{rule("lang", 6)}})
	checks(t, p, api.ErrPolicyElement)
}

// P14.1, P14.12: rules by each name that may not be, that must be a link, and by others, of each kind and beyond the kinds.
func TestCheckRuleNames(t *testing.T) {
	all := strings.Fields(neverAttrs + linkAttrs + " on onclick ona on-a ono o no n-on data-on class title lang a a1 a-b aria-label href2 srcs isa styles data-style")
	all = append(all, "", "-", "a-", "-a", "A", "Class", "ONCLICK", "xml:lang", "1", "a b", "a\n", "é", "\xff", "a\xff", "a_b", strings.Repeat("a", 100), strings.Repeat("a", 101))
	for _, name := range all {
		for _, kind := range []int{math.MinInt, -2, -1, 0, 1, 2, 3, 4, 5, 6, 7, 8, 9, 10, 256, math.MaxInt} {
			for _, words := range [][]string{nil, {}, {"x"}, {"x", "y"}, {""}} {
				r := rule(name, kind, words...)
				want := api.ErrPolicyAttr
				if ruleMay(r) {
					want = api.OK
				}
				everywhere(t, want, r)
			}
		}
	}
	for _, name := range strings.Fields(neverAttrs) {
		everywhere(t, api.ErrPolicyAttr, rule(name, 5))
	}
	for _, name := range strings.Fields(linkAttrs) {
		everywhere(t, api.OK, rule(name, 5))
		everywhere(t, api.ErrPolicyAttr, rule(name, 7, "x"))
	}
	for kind := range 9 {
		everywhere(t, api.ErrPolicyAttr, rule("onload", kind, manyWords(kind/7%8)...))
	}
}

// P14.1: a rule that stands twice in one list; one name in several lists may be.
func TestCheckRuleTwice(t *testing.T) {
	everywhere(t, api.ErrPolicyAttr, rule("lang", 0), rule("lang", 0))
	everywhere(t, api.ErrPolicyAttr, rule("lang", 6), rule("dir", 0), rule("lang", 1))
	everywhere(t, api.OK, rule("lang", 6), rule("dir", 0), rule("lan", 1))
	p := ruled(rule("lang", 6))
	p.Elements = append(p.Elements, api.Element{Name: "i", Rules: []api.Rule{rule("lang", 0)}})
	p.Global = []api.Rule{rule("lang", 1)}
	checks(t, p, api.OK)
}

// P14.1: words of each length and with each byte; with a wrong one at each place; one word twice.
func TestCheckWords(t *testing.T) {
	for _, n := range []int{0, 1, 2, api.MaxName - 1, api.MaxName, api.MaxName + 1, 1000} {
		want := api.OK
		if n < 1 || n > api.MaxName {
			want = api.ErrPolicyAttr
		}
		everywhere(t, want, rule("dir", 7, strings.Repeat("w", n)))
		everywhere(t, want, rule("dir", 7, "x", strings.Repeat("w", n), "y"))
		everywhere(t, want, rule("dir", 7, "x", strings.Repeat("w", n)))
	}
	for c := range 256 {
		want := api.ErrPolicyAttr
		if c >= 0x21 && c <= 0x7E {
			want = api.OK
		}
		for _, w := range []string{string([]byte{byte(c)}), "a" + string([]byte{byte(c)}), string([]byte{byte(c)}) + "a", "a" + string([]byte{byte(c), 'b'})} {
			everywhere(t, want, rule("dir", 7, w))
			everywhere(t, want, rule("dir", 7, "x", w))
			everywhere(t, want, rule("dir", 7, w, "x"))
		}
	}
	everywhere(t, api.ErrPolicyAttr, rule("dir", 7, "é"))
	everywhere(t, api.OK, rule("dir", 7, "a", "a", "A"))
	everywhere(t, api.ErrPolicyAttr, rule("lang", 6), rule("dir", 7))
}

// P14.1: what each element needs: without any one of it, and with all.
func TestCheckClosed(t *testing.T) {
	for _, name := range strings.Fields(allowable) {
		whole := policy.Close(small(name))
		checks(t, whole, api.OK)
		for _, out := range needed(name) {
			p := small(name)
			for _, e := range whole.Elements[1:] {
				if e.Name != out {
					p.Elements = append(p.Elements, e)
				}
			}
			checks(t, p, api.ErrPolicyClosed)
		}
		if len(needed(name)) == 0 {
			checks(t, small(name), api.OK)
		}
	}
	checks(t, small("ol", "li"), api.ErrPolicyClosed)
	checks(t, small("ul", "li"), api.OK)
	checks(t, small("table", "td", "tr", "tbody", "th", "colgroup", "col"), api.OK)
	checks(t, small("table", "td", "tr", "tbody", "th", "col"), api.ErrPolicyClosed)
}

// P14.1, P14.12: schemes that may not be, and one that stands twice.
func TestCheckSchemes(t *testing.T) {
	scheme := func(want api.Errno, l ...string) {
		t.Helper()
		p := small("b")
		p.Schemes = l
		checks(t, p, want)
	}
	scheme(api.OK, "http", "https", "mailto", "a", "z9+-.", strings.Repeat("a", 100))
	for _, s := range append(strings.Fields(neverSeen), "", "HTTP", "Http", "1a", "+a", "a:", "a b", "é", "\xff", "a\xff", "a_b", " http", "http ", strings.Repeat("a", 101)) {
		scheme(api.ErrPolicyScheme, s)
		scheme(api.ErrPolicyScheme, "http", s)
		scheme(api.ErrPolicyScheme, s, "http")
	}
	scheme(api.ErrPolicyScheme, "http", "http")
	scheme(api.ErrPolicyScheme, "http", "ftp", "http")
	scheme(api.OK, "javascripts", "datas", "http")
}

// P14.1: names that are dropped: which may be written, elements of it, twice.
func TestCheckDrop(t *testing.T) {
	drop := func(want api.Errno, l ...string) {
		t.Helper()
		p := small("b", "i")
		p.Drop = l
		checks(t, p, want)
	}
	drop(api.OK, "svg", "math", "p", "script", "x", "h1", "li", "style", strings.Repeat("a", 100))
	for _, s := range []string{"", "SVG", "1a", "a-b", "a b", "é", "\xff", "a\xff", "svg ", strings.Repeat("a", 101), "b", "i"} {
		drop(api.ErrPolicyElement, s)
		drop(api.ErrPolicyElement, "svg", s)
		drop(api.ErrPolicyElement, s, "svg")
	}
	drop(api.ErrPolicyElement, "svg", "svg")
	drop(api.ErrPolicyElement, "svg", "p", "math", "p")
}

// P14.1: Depth and Window at their least, at their most, one beyond, and far beyond.
func TestCheckLimits(t *testing.T) {
	for _, depth := range []int{math.MinInt, -1, 0, 1, 2, 511, 512, 513, math.MaxInt} {
		for _, window := range []int{math.MinInt, -16, 0, 1, 15, 16, 17, 1<<20 - 1, 1 << 20, 1<<20 + 1, math.MaxInt} {
			p := small("b")
			p.Depth, p.Window = depth, window
			want := api.ErrPolicyLimit
			if depth >= 1 && depth <= api.MaxDepth && window >= api.MinWindow && window <= api.MaxWindow {
				want = api.OK
			}
			checks(t, p, want)
		}
	}
}

// P14.1: as many things as may be, of each sort, and one more.
func TestCheckCount(t *testing.T) {
	var manyNames []string
	for i := range 2000 {
		manyNames = append(manyNames, fmt.Sprintf("x%d", i))
	}
	for name, fill := range map[string]func(p *api.Policy, n int){
		"global":       func(p *api.Policy, n int) { p.Global = many(n) },
		"rules":        func(p *api.Policy, n int) { p.Elements[0].Rules = many(n) },
		"both rules":   func(p *api.Policy, n int) { p.Elements[0].Rules, p.Global = many(n/2), many(n-n/2) },
		"schemes":      func(p *api.Policy, n int) { p.Schemes = manyNames[:n] },
		"drop":         func(p *api.Policy, n int) { p.Drop = manyNames[:n] },
		"words":        func(p *api.Policy, n int) { p.Elements[0].Rules = []api.Rule{rule("dir", 7, manyWords(n-1)...)} },
		"global words": func(p *api.Policy, n int) { p.Global = []api.Rule{rule("dir", 7, manyWords(n-1)...)} },
		"words twice": func(p *api.Policy, n int) {
			p.Global = []api.Rule{rule("dir", 7, strings.Fields(strings.Repeat("x ", n-1))...)}
		},
		"each": func(p *api.Policy, n int) {
			p.Elements[0].Rules = []api.Rule{rule("dir", 7, manyWords(99)...)}
			p.Elements[1].Rules = many(100)
			p.Global = append(many(99), rule("dir", 7, manyWords(200)...))
			p.Schemes = manyNames[:200]
			p.Drop = manyNames[:n-700]
		},
	} {
		p := small("b", "i")
		fill(&p, 998)
		if count(p) != 1000 {
			t.Errorf("%s: %d things", name, count(p))
		}
		checks(t, p, api.OK)
		fill(&p, 999)
		checks(t, p, api.ErrPolicyLimit)
		fill(&p, 1500)
		checks(t, p, api.ErrPolicyLimit)
	}
	p := small(strings.Fields(allowable)...)
	p.Global = many(1000 - len(p.Elements))
	checks(t, p, api.OK)
	p.Global = many(1001 - len(p.Elements))
	checks(t, p, api.ErrPolicyLimit)
}

// P14.1: each two things that are wrong, together: the first one by the chapter's order counts.
func TestCheckOrder(t *testing.T) {
	wrong := []struct {
		what string
		err  api.Errno
		do   func(p *api.Policy)
	}{
		{"first element", 140, func(p *api.Policy) { p.Elements[0].Name = "script" }},
		{"first rules", 141, func(p *api.Policy) { p.Elements[0].Rules = []api.Rule{rule("style", 0)} }},
		{"second element", 140, func(p *api.Policy) { p.Elements[1].Name = "" }},
		{"second rules", 141, func(p *api.Policy) { p.Elements[1].Rules = []api.Rule{rule("a", 9)} }},
		{"global", 141, func(p *api.Policy) { p.Global = []api.Rule{rule("src", 0)} }},
		{"needs", 142, func(p *api.Policy) { p.Elements[2].Name = "li" }},
		{"schemes", 143, func(p *api.Policy) { p.Schemes = []string{"data"} }},
		{"drop", 140, func(p *api.Policy) { p.Drop = []string{"A"} }},
		{"depth", 144, func(p *api.Policy) { p.Depth = 0 }},
		{"window", 144, func(p *api.Policy) { p.Window = 15 }},
		{"too many", 144, func(p *api.Policy) { p.Global = append(p.Global, many(1000)...) }},
	}
	for i, first := range wrong {
		p := small("b", "i", "p")
		first.do(&p)
		checks(t, p, first.err)
		for _, second := range wrong[i+1:] {
			p := small("b", "i", "p")
			first.do(&p)
			second.do(&p)
			if e := policy.Check(p); e != first.err {
				t.Errorf("%s, %s: %d", first.what, second.what, e)
			}
			checks(t, p, first.err)
		}
	}
}

// P14.1: policies of any sort, against the chapter's six points.
func TestCheckAny(t *testing.T) {
	rnd := rand.New(rand.NewSource(1))
	told := map[api.Errno]int{}
	for range 6000 {
		p := someAny(rnd)
		want := errorOf(p)
		told[want]++
		checks(t, p, want)
	}
	for _, e := range []api.Errno{0, 140, 141, 142, 143, 144} {
		if told[e] < 30 {
			t.Errorf("%d only %d times", e, told[e])
		}
	}
}

// R1: lists that are very long end soon, too.
func TestCheckLong(t *testing.T) {
	p := small("b")
	p.Global = many(300000)
	says := func(want api.Errno) {
		t.Helper()
		if e := policy.Check(p); e != want {
			t.Errorf("%d, not %d", e, want)
		}
	}
	says(api.ErrPolicyLimit)
	p.Global[len(p.Global)-1].Name = p.Global[1000].Name
	says(api.ErrPolicyAttr)
	p.Global = nil
	for i := range 300000 {
		p.Schemes = append(p.Schemes, fmt.Sprintf("s%d", i))
		p.Drop = append(p.Drop, fmt.Sprintf("d%d", i))
	}
	says(api.ErrPolicyLimit)
	p.Drop[0] = p.Drop[299999]
	says(api.ErrPolicyElement)
	p.Schemes[0] = p.Schemes[299999]
	says(api.ErrPolicyScheme)
}
