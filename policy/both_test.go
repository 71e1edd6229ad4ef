package policy_test

import (
	"fmt"
	"math/rand"
	"slices"
	"strings"
	"testing"

	"sieve/api"
	"sieve/policy"
)

// facts: all that a policy allows, each as a line.
func facts(p api.Policy) map[string]bool {
	out := map[string]bool{}
	for _, e := range p.Elements {
		out["element "+e.Name] = true
		for _, l := range [][]api.Rule{e.Rules, p.Global} {
			for _, x := range l {
				r, _ := ruleOf(p, e.Name, x.Name)
				out[fmt.Sprintf("rule %s %s %d", e.Name, r.Name, r.Kind)] = true
				for _, w := range r.Words {
					out["word "+e.Name+" "+r.Name+" "+strings.ToLower(w)] = true
				}
			}
		}
	}
	for _, s := range p.Schemes {
		out["scheme "+s] = true
	}
	if p.Relative {
		out["relative"] = true
	}
	return out
}

// inside: is each fact of one policy one of the other?
func inside(a, b api.Policy) bool {
	of := facts(b)
	for f := range facts(a) {
		if !of[f] {
			return false
		}
	}
	return a.Depth <= b.Depth && a.Window <= b.Window
}

// joined: both together, by the chapter, not counted.
func joined(a, b api.Policy) api.Policy {
	rules := func(a, b []api.Rule) []api.Rule {
		m := map[string]api.Rule{}
		for _, r := range append(slices.Clone(a), b...) {
			m[r.Name] = r
		}
		var out []api.Rule
		for _, name := range keys(m) {
			out = append(out, m[name])
		}
		return out
	}
	texts := func(a, b []string) []string {
		m := map[string]bool{}
		for _, s := range append(slices.Clone(a), b...) {
			m[s] = true
		}
		return keys(m)
	}
	out := api.Policy{Global: rules(a.Global, b.Global), Schemes: texts(a.Schemes, b.Schemes), Relative: a.Relative || b.Relative, Depth: max(a.Depth, b.Depth), Window: max(a.Window, b.Window)}
	m := map[string][]api.Rule{}
	for _, e := range append(slices.Clone(a.Elements), b.Elements...) {
		m[e.Name] = rules(m[e.Name], e.Rules)
	}
	for _, name := range keys(m) {
		out.Elements = append(out.Elements, api.Element{Name: name, Rules: m[name]})
	}
	for _, name := range texts(a.Drop, b.Drop) {
		if _, ok := m[name]; !ok {
			out.Drop = append(out.Drop, name)
		}
	}
	return tidied(out)
}

// met: what both allow, by the chapter, not counted: built of the facts that both have.
func met(a, b api.Policy) api.Policy {
	has, of := facts(a), facts(b)
	both := func(f string) bool { return has[f] && of[f] }
	in := map[string]bool{}
	for _, e := range a.Elements {
		in[e.Name] = both("element " + e.Name)
	}
	for changed := true; changed; {
		changed = false
		for name := range in {
			for _, n := range needed(name) {
				if in[name] && !in[n] {
					in[name], changed = false, true
				}
			}
		}
	}
	out := api.Policy{Relative: a.Relative && b.Relative, Depth: min(a.Depth, b.Depth), Window: min(a.Window, b.Window)}
	for _, name := range strings.Fields(allowable) {
		if !in[name] {
			continue
		}
		e := api.Element{Name: name}
		for f := range has {
			var attr string
			var kind int
			if n, _ := fmt.Sscanf(f, "rule "+name+" %s %d", &attr, &kind); n < 2 || !both(f) {
				continue
			}
			r := rule(attr, kind)
			for f := range has {
				if w, ok := strings.CutPrefix(f, "word "+name+" "+attr+" "); ok && both(f) {
					r.Words = append(r.Words, w)
				}
			}
			if kind != 7 || len(r.Words) > 0 {
				e.Rules = append(e.Rules, r)
			}
		}
		out.Elements = append(out.Elements, e)
	}
	for _, s := range a.Schemes {
		if slices.Contains(b.Schemes, s) {
			out.Schemes = append(out.Schemes, s)
		}
	}
	m := map[string]bool{}
	for _, s := range append(slices.Clone(a.Drop), b.Drop...) {
		if !in[s] {
			m[s] = true
		}
	}
	out.Drop = keys(m)
	return tidied(out)
}

// gives holds the answer of Join or Meet against one that is said.
func gives(t *testing.T, what string, got api.Policy, e api.Errno, want api.Policy) {
	t.Helper()
	if e != api.OK || show(got) != show(want) {
		t.Errorf("%s: %d:\n%s\nnot\n%s", what, e, show(got), show(want))
	}
}

// P14.5: by hand.
func TestJoinByHand(t *testing.T) {
	a, b := small("p", "b"), small("i", "p")
	a.Elements[0].Rules = []api.Rule{rule("title", 0), rule("dir", 7, "X", "y"), rule("class", 1)}
	a.Elements[1].Rules = []api.Rule{rule("lang", 6)}
	b.Elements[1].Rules = []api.Rule{rule("dir", 7, "Z", "z"), rule("class", 0), rule("id", 2)}
	a.Global = []api.Rule{rule("lang", 0), rule("title", 0)}
	b.Global = []api.Rule{rule("lang", 6), rule("data-x", 8)}
	a.Schemes, b.Schemes = []string{"http", "ftp"}, []string{"mailto", "http"}
	a.Drop, b.Drop = []string{"svg", "i", "x"}, []string{"math", "svg", "b"}
	a.Relative = true
	a.Depth, b.Window = 7, 99
	want := small("b", "i", "p")
	want.Elements[0].Rules = []api.Rule{rule("lang", 6)}
	want.Elements[2].Rules = []api.Rule{rule("class", 0), rule("dir", 7, "z"), rule("id", 2), rule("title", 0)}
	want.Global = []api.Rule{rule("data-x", 8), rule("lang", 6), rule("title", 0)}
	want.Schemes = []string{"ftp", "http", "mailto"}
	want.Drop = []string{"math", "svg", "x"}
	want.Relative, want.Depth, want.Window = true, 7, 99
	got, e := policy.Join(a, b)
	gives(t, "Join", got, e, want)
	want.Elements[2].Rules = []api.Rule{rule("class", 1), rule("dir", 7, "x", "y"), rule("id", 2), rule("title", 0)}
	want.Global[1] = rule("lang", 0)
	got, e = policy.Join(b, a)
	gives(t, "the other way", got, e, want)
	got, e = policy.Join(small(), small())
	gives(t, "of nothing", got, e, small())
}

// P14.13: by hand.
func TestMeetByHand(t *testing.T) {
	a := small("ul", "p", "li", "b", "ol", "dd", "dl")
	b := small("p", "dl", "dd", "dt", "ol", "li", "ul", "i")
	a.Elements[1].Rules = []api.Rule{rule("title", 0), rule("dir", 7, "X", "y", "Z"), rule("class", 1), rule("lang", 7, "de"), rule("cite", 5)}
	b.Elements[0].Rules = []api.Rule{rule("dir", 7, "z", "x"), rule("class", 0), rule("id", 2), rule("cite", 5), rule("lang", 7, "en")}
	a.Global = []api.Rule{rule("id", 2), rule("dir", 7, "q", "R")}
	b.Global = []api.Rule{rule("title", 0), rule("id", 3), rule("dir", 7, "r")}
	a.Schemes, b.Schemes = []string{"http", "ftp", "a"}, []string{"mailto", "a", "http"}
	a.Drop, b.Drop = []string{"svg", "i", "x"}, []string{"math", "svg", "b"}
	a.Relative, b.Relative = true, true
	a.Depth, b.Window = 7, 99
	want := small("dd", "dl", "li", "ol", "p", "ul")
	for at := range want.Elements {
		want.Elements[at].Rules = []api.Rule{rule("dir", 7, "r")}
	}
	want.Elements[4].Rules = []api.Rule{rule("cite", 5), rule("dir", 7, "x", "z"), rule("id", 2), rule("title", 0)}
	want.Schemes = []string{"a", "http"}
	want.Drop = []string{"b", "i", "math", "svg", "x"}
	want.Relative = true
	got, e := policy.Meet(a, b)
	gives(t, "Meet", got, e, want)
	got, e = policy.Meet(b, a)
	gives(t, "the other way", got, e, want)
	b.Relative, want.Relative = false, false
	got, e = policy.Meet(a, b)
	gives(t, "not relative", got, e, want)
	got, e = policy.Meet(small(), b)
	gives(t, "of nothing", got, e, api.Policy{Drop: []string{"b", "math", "svg"}, Depth: 1, Window: 16})
}

// P14.13: the elements that both have, with all that they need.
func TestMeetElements(t *testing.T) {
	for _, c := range [][3]string{
		{"ul li", "ul li", "li ul"},
		{"ul li b", "ol ul li", "li ul"},
		{"table tbody tr td", "td tr tbody table th", "table tbody td tr"},
		{"col colgroup table tbody tr td", "colgroup table tbody td tr", "colgroup table tbody td tr"},
		{"dd dl dt", "dl dd", "dd dl"},
		{"b i", "p", ""},
	} {
		got, e := policy.Meet(small(strings.Fields(c[0])...), small(strings.Fields(c[1])...))
		gives(t, fmt.Sprint(c), got, e, small(strings.Fields(c[2])...))
	}
}

// P14.5, P14.13: Check's error of the first one, then of the second one, with nothing else.
func TestBothWrong(t *testing.T) {
	calls := func(a, b api.Policy, want api.Errno) {
		t.Helper()
		if p, e := policy.Join(a, b); e != want || !zero(p) {
			t.Errorf("Join: %d, not %d:\n%s", e, want, show(p))
		}
		if p, e := policy.Meet(a, b); e != want || !zero(p) {
			t.Errorf("Meet: %d, not %d:\n%s", e, want, show(p))
		}
		if ok, e := policy.Within(a, b); e != want || ok {
			t.Errorf("Within: %d, not %d: %v", e, want, ok)
		}
	}
	for first, a := range wrongPolicies() {
		calls(a, small("b"), first)
		calls(small("b"), a, first)
		calls(small(), a, first)
		for _, b := range wrongPolicies() {
			calls(a, b, first)
		}
	}
	big := small()
	big.Global = many(1000)
	calls(big, small("li"), api.ErrPolicyClosed)
	calls(small("li"), big, api.ErrPolicyClosed)
}

// P14.5: Join of as many things as may be, and of one more, of each sort; counted as Tidy leaves them.
func TestJoinLimit(t *testing.T) {
	half := func(from, to int) (l []string) {
		for i := from; i < to; i++ {
			l = append(l, fmt.Sprintf("x%d", i))
		}
		return l
	}
	for name, fill := range map[string]func(p *api.Policy, from, to int){
		"global":    func(p *api.Policy, from, to int) { p.Global = many(to)[from:] },
		"rules":     func(p *api.Policy, from, to int) { p.Elements[0].Rules = many(to)[from:] },
		"schemes":   func(p *api.Policy, from, to int) { p.Schemes = half(from, to) },
		"drop":      func(p *api.Policy, from, to int) { p.Drop = half(from, to) },
		"two sorts": func(p *api.Policy, from, to int) { p.Global = many(to / 2)[from/2:]; p.Drop = half(from/2, to-to/2) },
		"overlaid":  func(p *api.Policy, from, to int) { p.Global = many(to)[max(0, from-90):] },
	} {
		for _, c := range []struct {
			more int
			want api.Errno
		}{{-1, api.OK}, {0, api.OK}, {1, api.ErrPolicyLimit}, {2, api.ErrPolicyLimit}, {100, api.ErrPolicyLimit}} {
			a, b := small("b"), small("b")
			fill(&a, 0, 500)
			fill(&b, 500, 999+c.more)
			want := joined(a, b)
			if count(want) != 1000+c.more {
				t.Errorf("%s: %d things", name, count(want))
			}
			got, e := policy.Join(a, b)
			if count(want) > 1000 {
				want = api.Policy{}
			}
			if e != c.want || show(got) != show(want) {
				t.Errorf("%s, %d more: %d, %d things", name, c.more, e, count(got))
			}
		}
	}
}

// P14.5: words count as Tidy leaves them: each once in small letters; those that the other one's rule stands in for do not.
func TestJoinLimitWords(t *testing.T) {
	a, b := small(), small()
	a.Global = []api.Rule{rule("dir", 7, manyWords(500)...)}
	twice := append(manyWords(250), manyWords(250)...)
	for i, w := range twice[250:] {
		twice[250+i] = strings.ToUpper(w)
	}
	b.Global = []api.Rule{rule("lang", 7, twice...)}
	a.Drop = []string{"svg"}
	for n := range 247 {
		b.Drop = append(b.Drop, fmt.Sprintf("x%d", n))
	}
	got, e := policy.Join(a, b)
	gives(t, "1000 things", got, e, joined(a, b))
	if count(got) != 1000 {
		t.Errorf("%d things", count(got))
	}
	b.Schemes = []string{"http"}
	if got, e := policy.Join(a, b); e != api.ErrPolicyLimit || !zero(got) {
		t.Errorf("one more: %d, %d things", e, count(got))
	}
	c := small()
	c.Global = []api.Rule{rule("dir", 7, manyWords(900)...)}
	got, e = policy.Join(a, c)
	gives(t, "one stands in", got, e, joined(a, c))
}

// P14.13: Meet of as many things as may be, and of one more: a rule for all is one of each element there.
func TestMeetLimit(t *testing.T) {
	for _, c := range []struct {
		elements, rules, drop int
		want                  api.Errno
	}{{10, 99, 0, api.OK}, {10, 99, 1, api.ErrPolicyLimit}, {10, 98, 10, api.OK}, {10, 100, 0, api.ErrPolicyLimit}, {20, 900, 0, api.ErrPolicyLimit}, {0, 1000, 0, api.OK}} {
		p := small(strings.Fields("a b i p u s q hr br em code div span bdi bdo cite h1 h2 h3 h4")[:c.elements]...)
		p.Global = many(c.rules)
		q := small(strings.Fields("a b i p u s q hr br em code div span bdi bdo cite h1 h2 h3 h4")[:c.elements]...)
		q.Global = many(c.rules)
		for i := range c.drop {
			q.Drop = append(q.Drop, fmt.Sprintf("x%d", i))
		}
		want := api.Policy{}
		if c.want == api.OK {
			want = met(p, q)
		}
		if got, e := policy.Meet(p, q); e != c.want || show(got) != show(want) {
			t.Errorf("%v: %d, %d things", c, e, count(got))
		}
	}
	a, b := small("b", "i"), small("i", "b")
	a.Global = []api.Rule{rule("dir", 7, manyWords(498)...)}
	b.Global = []api.Rule{rule("dir", 7, manyWords(700)...)}
	got, e := policy.Meet(a, b)
	if e != api.OK || count(got) != 1000 {
		t.Errorf("words: %d, %d things", e, count(got))
	}
	a.Global[0].Words = append(a.Global[0].Words, "w0000", "W0001")
	if got, e := policy.Meet(a, b); e != api.OK || count(got) != 1000 {
		t.Errorf("words twice: %d, %d things", e, count(got))
	}
	a.Global[0].Words = manyWords(499)
	if got, e := policy.Meet(a, b); e != api.ErrPolicyLimit || !zero(got) {
		t.Errorf("one word more: %d, %d things", e, count(got))
	}
}

// P14.5: what is within, and what is not, for one thing alone.
func TestWithinByHand(t *testing.T) {
	both := func() (api.Policy, api.Policy) {
		a, b := small("b", "p"), small("p", "i", "b")
		a.Elements[0].Rules = []api.Rule{rule("dir", 7, "LTR"), rule("title", 0)}
		b.Elements[2].Rules = []api.Rule{rule("title", 0), rule("x", 3)}
		a.Global, b.Global = []api.Rule{rule("lang", 6)}, []api.Rule{rule("dir", 7, "auto", "ltr"), rule("lang", 6)}
		a.Schemes, b.Schemes = []string{"http"}, []string{"ftp", "http"}
		b.Relative = true
		return a, b
	}
	for _, c := range []struct {
		what string
		want bool
		do   func(a, b *api.Policy)
	}{
		{"as they are", true, func(a, b *api.Policy) {}},
		{"an element more", false, func(a, b *api.Policy) { a.Elements = append(a.Elements, api.Element{Name: "u"}) }},
		{"an element that b has", true, func(a, b *api.Policy) { a.Elements = append(a.Elements, api.Element{Name: "i"}) }},
		{"a rule more", false, func(a, b *api.Policy) { a.Elements[1].Rules = []api.Rule{rule("x", 3)} }},
		{"a rule that b has", true, func(a, b *api.Policy) { a.Elements[0].Rules[1] = rule("x", 3) }},
		{"a rule of another kind", false, func(a, b *api.Policy) { a.Elements[0].Rules[1].Kind = 1 }},
		{"a word more", false, func(a, b *api.Policy) { a.Elements[0].Rules[0].Words = []string{"LTR", "rtl"} }},
		{"words with capitals", true, func(a, b *api.Policy) { a.Elements[0].Rules[0].Words = []string{"AUTO", "LTR", "ltr", "Auto"} }},
		{"words with capitals there", true, func(a, b *api.Policy) { b.Global[0].Words = []string{"LtR"} }},
		{"a word less there", false, func(a, b *api.Policy) { b.Global[0].Words = []string{"auto"} }},
		{"any for a oneof", false, func(a, b *api.Policy) { b.Global[0] = rule("dir", 0) }},
		{"an own rule there goes ahead", false, func(a, b *api.Policy) { b.Elements[2].Rules = append(b.Elements[2].Rules, rule("dir", 7, "auto")) }},
		{"an own rule here goes ahead", false, func(a, b *api.Policy) { a.Elements[0].Rules[0] = rule("lang", 0) }},
		{"a global rule more", false, func(a, b *api.Policy) { a.Global = append(a.Global, rule("y", 0)) }},
		{"a global rule more, but no element", true, func(a, b *api.Policy) { a.Global = append(a.Global, rule("y", 0)); a.Elements = nil }},
		{"a global rule as own ones there", true, func(a, b *api.Policy) {
			b.Global = b.Global[:1]
			b.Elements[0].Rules = append(b.Elements[0].Rules, rule("lang", 6))
			b.Elements[2].Rules = append(b.Elements[2].Rules, rule("lang", 6))
		}},
		{"a scheme more", false, func(a, b *api.Policy) { a.Schemes = []string{"http", "mailto"} }},
		{"no scheme", true, func(a, b *api.Policy) { a.Schemes = nil }},
		{"no scheme there", false, func(a, b *api.Policy) { b.Schemes = nil }},
		{"relative both", true, func(a, b *api.Policy) { a.Relative = true }},
		{"relative alone", false, func(a, b *api.Policy) { a.Relative, b.Relative = true, false }},
		{"deeper", false, func(a, b *api.Policy) { a.Depth = 2 }},
		{"less deep", true, func(a, b *api.Policy) { b.Depth = 512 }},
		{"wider", false, func(a, b *api.Policy) { a.Window = 17 }},
		{"less wide", true, func(a, b *api.Policy) { b.Window = 17 }},
		{"drops are no matter", true, func(a, b *api.Policy) { a.Drop, b.Drop = []string{"svg", "i"}, []string{"math"} }},
		{"nothing", true, func(a, b *api.Policy) { *a = small() }},
		{"in nothing", false, func(a, b *api.Policy) { *b = small() }},
		{"nothing in nothing", true, func(a, b *api.Policy) { *a, *b = small(), small() }},
	} {
		a, b := both()
		c.do(&a, &b)
		if got, e := policy.Within(a, b); got != c.want || e != api.OK || inside(a, b) != c.want {
			t.Errorf("%s: %v, %d (by the facts: %v)", c.what, got, e, inside(a, b))
		}
	}
}

// P14.5, P14.11, P14.13, P14.14: two policies of any sort, against the chapter's words and against each other.
func TestBothAny(t *testing.T) {
	rnd := rand.New(rand.NewSource(6))
	within, not, alike := 0, 0, 0
	for n := range 2500 {
		a, b := someValid(rnd), someValid(rnd)
		if n%4 == 0 { // so that some are within another
			b, _ = policy.Join(b, a)
		}
		j, e := policy.Join(a, b)
		gives(t, "Join", j, e, joined(a, b))
		m, e := policy.Meet(a, b)
		gives(t, "Meet", m, e, met(a, b))
		w, e := policy.Within(a, b)
		if w != inside(a, b) || e != api.OK {
			t.Fatalf("Within: %v, %d:\n%s\nin\n%s", w, e, show(a), show(b))
		}
		if w {
			within++
		} else {
			not++
		}
		back, _ := policy.Meet(b, a)
		if show(back) != show(m) {
			t.Fatalf("Meet the other way:\n%s\n%s", show(m), show(back))
		}
		for _, p := range []api.Policy{j, m} {
			if e := policy.Check(p); e != api.OK || show(tidied(p)) != show(p) {
				t.Fatalf("%d: not tidy:\n%s", e, show(p))
			}
		}
		for _, pair := range [][2]api.Policy{{a, a}, {b, b}, {m, a}, {m, b}, {j, j}, {m, m}} {
			if ok, e := policy.Within(pair[0], pair[1]); !ok || e != api.OK {
				t.Fatalf("%d: not within:\n%s\nin\n%s", e, show(pair[0]), show(pair[1]))
			}
		}
		if !otherwise(a, b) {
			alike++
			if ok, e := policy.Within(a, j); !ok || e != api.OK {
				t.Fatalf("%d: not within Join:\n%s\nin\n%s", e, show(a), show(j))
			}
		}
		if t.Failed() {
			t.FailNow()
		}
	}
	if within < 100 || not < 100 || alike < 100 {
		t.Errorf("%d are within, %d not; %d have no rules that are not alike", within, not, alike)
	}
}

// otherwise: has b a rule of another kind, or with other words, for something that a has one for?
func otherwise(a, b api.Policy) bool {
	for name, r := range policy.All(a) {
		of := slices.Clone(b.Global)
		for _, e := range b.Elements {
			if e.Name == name {
				of = append(of, e.Rules...)
			}
		}
		for _, x := range of {
			if x.Name == r.Name && (x.Kind != r.Kind || !slices.Equal(smallWords(x.Words), smallWords(r.Words))) {
				return true
			}
		}
	}
	return false
}

// P14.11: within goes on; P14.14: what is within both is within Meet, element by element.
func TestWithinGoesOn(t *testing.T) {
	rnd := rand.New(rand.NewSource(7))
	went := 0
	for range 3000 {
		a, b, c := someValid(rnd), someValid(rnd), someValid(rnd)
		ab, _ := policy.Meet(a, b)
		abc, _ := policy.Meet(ab, c)
		for _, pair := range [][2]api.Policy{{abc, ab}, {ab, a}, {abc, a}, {abc, b}, {abc, c}} {
			if ok, e := policy.Within(pair[0], pair[1]); !ok || e != api.OK {
				t.Fatalf("%d: not within:\n%s\nin\n%s", e, show(pair[0]), show(pair[1]))
			}
		}
		if len(abc.Elements) > 0 {
			went++
		}
		// c, as far as it is within a and b, is within what both allow.
		inA, _ := policy.Within(c, a)
		inB, _ := policy.Within(c, b)
		if ok, _ := policy.Within(c, ab); ok != (inA && inB) {
			t.Fatalf("within both: %v, %v; within Meet: %v:\n%s\nin\n%s", inA, inB, ok, show(c), show(ab))
		}
		bc, _ := policy.Meet(b, c)
		if other, _ := policy.Meet(a, bc); show(other) != show(abc) {
			t.Fatalf("Meet of three:\n%s\n%s", show(abc), show(other))
		}
	}
	if went < 100 {
		t.Errorf("only %d have elements", went)
	}
}
