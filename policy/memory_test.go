package policy_test

import (
	"math/rand"
	"sync"
	"testing"

	"sieve/api"
	"sieve/policy"
)

// roomy: a policy in new memory, each list with room behind its end, in which something stands.
func roomy(p api.Policy) api.Policy {
	out := p
	out.Elements = append([]api.Element(nil), p.Elements...)
	for at, e := range out.Elements {
		out.Elements[at].Rules = roomyRules(e.Rules)
	}
	out.Elements = append(out.Elements, api.Element{Name: "room", Rules: roomyRules(nil)}, api.Element{Name: "li"})[:len(p.Elements)]
	out.Global = roomyRules(p.Global)
	out.Schemes = roomyTexts(p.Schemes)
	out.Drop = roomyTexts(p.Drop)
	return out
}

// roomyRules: rules with room behind their end, and behind their words' ends.
func roomyRules(l []api.Rule) []api.Rule {
	out := append([]api.Rule(nil), l...)
	for at, r := range out {
		out[at].Words = roomyTexts(r.Words)
	}
	return append(out, rule("room", 7, "room"), rule("title", 0))[:len(l)]
}

// roomyTexts: texts with room behind their end.
func roomyTexts(l []string) []string {
	return append(append([]string(nil), l...), "room", "javascript")[:len(l)]
}

// whole: a policy with all that stands in the room behind its lists' ends.
func whole(p api.Policy) string {
	rules := func(l []api.Rule) []api.Rule {
		l = append([]api.Rule(nil), l[:cap(l)]...)
		for at, r := range l {
			l[at].Words = r.Words[:cap(r.Words)]
		}
		return l
	}
	p.Elements = append([]api.Element(nil), p.Elements[:cap(p.Elements)]...)
	for at, e := range p.Elements {
		p.Elements[at].Rules = rules(e.Rules)
	}
	p.Global = rules(p.Global)
	p.Schemes, p.Drop = p.Schemes[:cap(p.Schemes)], p.Drop[:cap(p.Drop)]
	return show(p)
}

// scrawl changes all of a policy, and the room behind its lists' ends.
func scrawl(p api.Policy) {
	for _, e := range p.Elements[:cap(p.Elements)] {
		scrawlRules(e.Rules)
	}
	for at := range p.Elements[:cap(p.Elements)] {
		p.Elements[:cap(p.Elements)][at].Name = "scrawl"
	}
	scrawlRules(p.Global)
	scrawlTexts(p.Schemes)
	scrawlTexts(p.Drop)
}

// scrawlRules changes rules, their words, and the room behind.
func scrawlRules(l []api.Rule) {
	l = l[:cap(l)]
	for at := range l {
		scrawlTexts(l[at].Words)
		l[at].Name, l[at].Kind = "scrawl", 99
	}
}

// scrawlTexts changes texts, and the room behind.
func scrawlTexts(l []string) {
	l = l[:cap(l)]
	for at := range l {
		l[at] = "scrawl"
	}
}

// answers: the calls that answer policies, by their names.
func answers() map[string]func(a, b api.Policy) api.Policy {
	return map[string]func(a, b api.Policy) api.Policy{
		"Close": func(a, b api.Policy) api.Policy { return policy.Close(a) },
		"Tidy":  func(a, b api.Policy) api.Policy { p, _ := policy.Tidy(a); return p },
		"Join":  func(a, b api.Policy) api.Policy { p, _ := policy.Join(a, b); return p },
		"Meet":  func(a, b api.Policy) api.Policy { p, _ := policy.Meet(a, b); return p },
		"Preset": func(a, b api.Policy) api.Policy {
			p, _ := policy.Preset("full")
			return p
		},
		"Parse": func(a, b api.Policy) api.Policy {
			s, _ := policy.Print(a)
			p, _, _ := policy.Parse(s)
			return p
		},
		"Element": func(a, b api.Policy) api.Policy {
			var p api.Policy
			for _, e := range a.Elements {
				x, _ := policy.Element(a, e.Name)
				p.Elements = append(p.Elements, x)
			}
			return p
		},
		"Rule": func(a, b api.Policy) api.Policy {
			var p api.Policy
			for _, e := range a.Elements {
				for _, attr := range askAttrs {
					if r, ok := policy.Rule(a, e.Name, attr); ok {
						p.Global = append(p.Global, r)
					}
				}
			}
			return p
		},
		"All": func(a, b api.Policy) api.Policy {
			var p api.Policy
			for _, r := range policy.All(a) {
				p.Global = append(p.Global, r)
			}
			return p
		},
		"Needs": func(a, b api.Policy) api.Policy {
			var p api.Policy
			for _, e := range a.Elements {
				p.Global = append(p.Global, rule(e.Name, 0, policy.Needs(e.Name)...))
			}
			return p
		},
	}
}

// R3: nothing that is handed in is changed, nor the room behind it; what is answered shares nothing with it, nor one of its lists with another.
func TestMemory(t *testing.T) {
	rnd := rand.New(rand.NewSource(9))
	for n := range 600 {
		a, b := roomy(someValid(rnd)), roomy(someValid(rnd))
		if n%3 == 0 {
			a = roomy(someAny(rnd))
		}
		wasA, wasB := whole(a), whole(b)
		policy.Check(a)
		policy.Within(a, b)
		policy.Dropped(a, "svg")
		for name, call := range answers() {
			got := call(a, b)
			if whole(a) != wasA || whole(b) != wasB {
				t.Fatalf("%s changed what was handed in", name)
			}
			want := show(got)
			scrawl(got)
			if whole(a) != wasA || whole(b) != wasB {
				t.Fatalf("what %s answers is what was handed in", name)
			}
			if again := call(a, b); show(again) != want {
				t.Fatalf("%s again:\n%s\nnot\n%s", name, show(again), want)
			}
		}
	}
}

// R3: what was answered stays, whatever is done with what was handed in.
func TestStays(t *testing.T) {
	rnd := rand.New(rand.NewSource(10))
	for range 500 {
		p := roomy(someValid(rnd))
		for name, call := range answers() {
			a, b := roomy(p), roomy(p)
			got := call(a, b)
			was := show(got)
			scrawl(a)
			scrawl(b)
			if show(got) != was {
				t.Fatalf("%s:\n%s\nnot\n%s", name, show(got), was)
			}
		}
	}
}

// R3: no two lists of one answer share memory: what is written into one is in no other.
func TestListsApart(t *testing.T) {
	p := small("b", "i", "p")
	p.Global = []api.Rule{rule("dir", 7, "auto", "ltr"), rule("title", 7, "auto", "ltr")}
	p.Elements[0].Rules = roomyRules(p.Global)
	p.Elements[1].Rules = p.Elements[0].Rules
	p.Elements[2].Rules = p.Elements[0].Rules
	p.Schemes = []string{"http", "https"}
	p.Drop = p.Schemes
	words := p.Elements[0].Rules[0].Words
	p.Elements[0].Rules[1].Words = words
	for name, call := range answers() {
		got := call(p, p)
		lists := [][]string{got.Schemes, got.Drop}
		for _, e := range got.Elements {
			for _, r := range e.Rules {
				lists = append(lists, r.Words)
			}
		}
		for _, r := range got.Global {
			lists = append(lists, r.Words)
		}
		seen := map[*string]bool{}
		for _, l := range lists {
			l = l[:cap(l)]
			for at := range l {
				if seen[&l[at]] {
					t.Errorf("%s: two lists share memory", name)
				}
				seen[&l[at]] = true
			}
		}
		rules := map[*api.Rule]bool{}
		for _, e := range append(got.Elements, api.Element{Rules: got.Global}) {
			l := e.Rules[:cap(e.Rules)]
			for at := range l {
				if rules[&l[at]] {
					t.Errorf("%s: two lists of rules share memory", name)
				}
				rules[&l[at]] = true
			}
		}
	}
}

// R3: nil and empty lists are the same.
func TestNoLists(t *testing.T) {
	a := small("b")
	b := small("b")
	b.Elements[0].Rules, b.Global, b.Schemes, b.Drop = []api.Rule{}, []api.Rule{}, []string{}, []string{}
	for name, call := range answers() {
		if one, two := call(a, a), call(b, b); show(one) != show(two) {
			t.Errorf("%s:\n%s\n%s", name, show(one), show(two))
		}
	}
	a.Global, b.Global = []api.Rule{rule("x", 0)}, []api.Rule{{Name: "x", Words: []string{}}}
	if policy.Check(a) != api.OK || policy.Check(b) != api.OK {
		t.Error("a rule with no words")
	}
	for _, p := range [][2]api.Policy{{a, b}, {b, a}} {
		if ok, e := policy.Within(p[0], p[1]); !ok || e != api.OK {
			t.Errorf("%v, %d", ok, e)
		}
	}
}

// R4: calls know nothing of each other.
func TestApart(t *testing.T) {
	rnd := rand.New(rand.NewSource(11))
	var l []api.Policy
	for range 60 {
		l = append(l, someAny(rnd))
	}
	all := answers()
	said := func(at int) string {
		a, b := l[at], l[(at+1)%len(l)]
		out := ""
		for _, name := range keys(all) {
			out += name + "\n" + show(all[name](a, b)) + "\n"
		}
		s, _ := policy.Print(a)
		return out + s
	}
	var alone []string
	for at := range l {
		alone = append(alone, said(at))
	}
	var wait sync.WaitGroup
	for worker := range 4 {
		wait.Go(func() {
			for i := range l {
				at := (i*7 + worker) % len(l)
				if said(at) != alone[at] {
					t.Errorf("policy %d", at)
				}
			}
		})
	}
	wait.Wait()
}
