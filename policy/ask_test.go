package policy_test

import (
	"math/rand"
	"slices"
	"strings"
	"testing"

	"sieve/api"
	"sieve/names"
	"sieve/policy"
)

// askNames: names of elements that are asked for.
var askNames = append(strings.Fields(allowable), "", "B", "script", "style", "x", "\xff", "\ufffd", "b ", "svg", "math", "plaintext", "xmp", "title")

// askAttrs: names of attributes that are asked for.
var askAttrs = []string{"class", "dir", "href", "title", "lang", "", "Class", "onx", "style", "a", "\xff", "\ufffd", "data-7"}

// showElement: all of an element.
func showElement(e api.Element) string { return show(api.Policy{Elements: []api.Element{e}}) }

// P14.2: the element of a name, as it stands there; of a policy that is not valid, the first one.
func TestElement(t *testing.T) {
	p := small("b", "i", "b", "script", "\xff")
	p.Elements[0].Rules = []api.Rule{rule("dir", 7, "LTR", "ltr"), rule("style", 99, "", "\xff")}
	p.Elements[2].Rules = []api.Rule{rule("title", 0)}
	p.Elements[4].Rules = []api.Rule{rule("lang", 6)}
	for name, at := range map[string]int{"b": 0, "i": 1, "script": 3, "\xff": 4, "": -1, "B": -1, "p": -1, "\ufffd": -1, "b ": -1} {
		e, ok := policy.Element(p, name)
		want := api.Element{}
		if at >= 0 {
			want = p.Elements[at]
		}
		if ok != (at >= 0) || showElement(e) != showElement(want) {
			t.Errorf("Element(%q): %v, %v", name, e, ok)
		}
	}
	if e, ok := policy.Element(api.Policy{}, ""); ok || e.Name != "" || len(e.Rules) > 0 {
		t.Errorf("of nothing: %v, %v", e, ok)
	}
	if _, ok := policy.Element(small(""), ""); !ok {
		t.Error("an element without a name, which is there")
	}
}

// P14.2: its own rule goes ahead of one for all; none of an element that is not there; the first one of several.
func TestRule(t *testing.T) {
	p := small("b", "i", "b")
	p.Elements[0].Rules = []api.Rule{rule("class", 2), rule("class", 3), rule("dir", 7, "LTR", "auto", "LTR")}
	p.Elements[2].Rules = []api.Rule{rule("id", 2)}
	p.Global = []api.Rule{rule("class", 1), rule("lang", 6), rule("lang", 0), rule("", 4, "\xff")}
	for _, c := range []struct {
		name, attr string
		want       api.Rule
		ok         bool
	}{
		{"b", "class", rule("class", 2), true},
		{"b", "dir", rule("dir", 7, "LTR", "auto", "LTR"), true},
		{"b", "lang", rule("lang", 6), true},
		{"i", "class", rule("class", 1), true},
		{"i", "dir", api.Rule{}, false},
		{"b", "id", api.Rule{}, false},
		{"i", "", rule("", 4, "\xff"), true},
		{"b", "Class", api.Rule{}, false},
		{"p", "class", api.Rule{}, false},
		{"", "class", api.Rule{}, false},
		{"B", "class", api.Rule{}, false},
	} {
		r, ok := policy.Rule(p, c.name, c.attr)
		if ok != c.ok || showRules([]api.Rule{r}) != showRules([]api.Rule{c.want}) {
			t.Errorf("Rule(%q, %q): %v, %v", c.name, c.attr, r, ok)
		}
	}
}

// P14.2: what is dropped with its content: by Drop, or raw text, script and plaintext; of any policy.
func TestDropped(t *testing.T) {
	p := small("b")
	p.Drop = []string{"svg", "svg", "b", "", "\xff", "X-Y", "title"}
	for _, name := range append(names.Known(), append(askNames, "X-Y", "x-y", "STYLE", "Script", "iframe ")...) {
		raw := among(rawText+"script plaintext", name)
		if got := policy.Dropped(api.Policy{}, name); got != raw {
			t.Errorf("Dropped(nothing, %q): %v", name, got)
		}
		if got, want := policy.Dropped(p, name), raw || slices.Contains(p.Drop, name); got != want {
			t.Errorf("Dropped(%q): %v", name, got)
		}
	}
	if !policy.Dropped(small("style"), "style") {
		t.Error("style, as an element of a policy that is not valid")
	}
}

// P14.2: policies of any sort, valid or not, against the chapter's words.
func TestAskAny(t *testing.T) {
	rnd := rand.New(rand.NewSource(2))
	for range 1000 {
		p := someAny(rnd)
		for _, name := range askNames {
			at := slices.IndexFunc(p.Elements, func(e api.Element) bool { return e.Name == name })
			e, ok := policy.Element(p, name)
			if ok != (at >= 0) || ok && showElement(e) != showElement(p.Elements[at]) {
				t.Fatalf("Element(%q): %v, %v:\n%s", name, e, ok, show(p))
			}
			for _, attr := range askAttrs {
				want, has := ruleOf(p, name, attr)
				r, ok := policy.Rule(p, name, attr)
				if ok != has || showRules([]api.Rule{r}) != showRules([]api.Rule{want}) {
					t.Fatalf("Rule(%q, %q): %v, %v:\n%s", name, attr, r, ok, show(p))
				}
			}
		}
	}
}

// told: what All tells, as lines; at most n of them (-1: all).
func told(p api.Policy, n int) []string {
	out := []string{}
	for name, r := range policy.All(p) {
		if n >= 0 && len(out) == n {
			break
		}
		out = append(out, name+showRules([]api.Rule{r}))
	}
	return out
}

// P14.8: by hand: own rules first, then those for all that none of its own stands in for, in their order.
func TestAllByHand(t *testing.T) {
	p := small("i", "b", "a")
	p.Elements[0].Rules = []api.Rule{rule("title", 0), rule("class", 0)}
	p.Elements[2].Rules = []api.Rule{rule("lang", 6), rule("href", 5), rule("dir", 7, "Z", "a", "Z"), rule("class", 2)}
	p.Global = []api.Rule{rule("lang", 1), rule("class", 1), rule("dir", 7, "ltr", "auto")}
	want := []string{
		`i ["title" 0 []]`, `i ["class" 0 []]`, `i ["lang" 1 []]`, `i ["dir" 7 ["ltr" "auto"]]`,
		`b ["lang" 1 []]`, `b ["class" 1 []]`, `b ["dir" 7 ["ltr" "auto"]]`,
		`a ["lang" 6 []]`, `a ["href" 5 []]`, `a ["dir" 7 ["Z" "a" "Z"]]`, `a ["class" 2 []]`,
	}
	if got := told(p, -1); !slices.Equal(got, want) {
		t.Errorf("%q", got)
	}
	for n := range len(want) + 2 {
		if got := told(p, n); !slices.Equal(got, want[:min(n, len(want))]) {
			t.Errorf("the first %d: %q", n, got)
		}
	}
	p.Elements = nil
	if got := told(p, -1); len(got) > 0 {
		t.Errorf("without elements: %q", got)
	}
	if got := told(small("b", "i"), -1); len(got) > 0 {
		t.Errorf("without rules: %q", got)
	}
	if got := told(api.Policy{}, -1); len(got) > 0 {
		t.Errorf("of nothing: %q", got)
	}
}

// P14.8: of a policy that is not valid, all as it stands there.
func TestAllNotValid(t *testing.T) {
	p := small("script", "script")
	p.Elements[0].Rules = []api.Rule{rule("style", 0), rule("style", 99, "\xff")}
	p.Global = []api.Rule{rule("onx", -1, ""), rule("style", 3)}
	want := []string{`script ["style" 0 []]`, `script ["style" 99 ["\xff"]]`, `script ["onx" -1 [""]]`, `script ["onx" -1 [""]]`, `script ["style" 3 []]`}
	if got := told(p, -1); !slices.Equal(got, want) {
		t.Errorf("%q", got)
	}
}

// P14.8: what All tells of valid policies are just the rules that Rule tells, each once.
func TestAllAny(t *testing.T) {
	rnd := rand.New(rand.NewSource(3))
	for range 3000 {
		p := someValid(rnd)
		var want []string
		for _, e := range p.Elements {
			for _, r := range e.Rules {
				want = append(want, e.Name+showRules([]api.Rule{r}))
			}
			for _, g := range p.Global {
				if !slices.ContainsFunc(e.Rules, func(r api.Rule) bool { return r.Name == g.Name }) {
					want = append(want, e.Name+showRules([]api.Rule{g}))
				}
			}
		}
		if got := told(p, -1); !slices.Equal(got, want) {
			t.Fatalf("%q, not %q", got, want)
		}
		for name, r := range policy.All(p) {
			if x, ok := policy.Rule(p, name, r.Name); !ok || showRules([]api.Rule{x}) != showRules([]api.Rule{r}) {
				t.Fatalf("%s %s: %v, %v", name, r.Name, x, ok)
			}
		}
	}
}

// P14.8, R3: what All tells is as it was when it was asked for; it is gone over again, left, and nested; what it tells may be changed.
func TestAllAgain(t *testing.T) {
	p := small("b", "i")
	p.Elements[1].Rules = []api.Rule{rule("title", 7, "one", "two")}
	p.Global = []api.Rule{rule("dir", 7, "ltr", "auto"), rule("lang", 6)}
	want := told(p, -1)
	all := policy.All(p)
	p.Elements[0].Name = "u"
	p.Elements[1].Rules[0] = rule("x", 0)
	p.Global[0].Words[0] = "scrawl"
	p.Global[1].Name = "scrawl"
	for range 3 {
		var got []string
		for name, r := range all {
			got = append(got, name+showRules([]api.Rule{r}))
			n := 0
			for _, inner := range all {
				if n++; n > len(got) {
					break
				}
				for i := range inner.Words {
					inner.Words[i] = "scrawl"
				}
			}
			for i := range r.Words[:cap(r.Words)] {
				r.Words[:cap(r.Words)][i] = "scrawl"
			}
		}
		if !slices.Equal(got, want) {
			t.Errorf("%q, not %q", got, want)
		}
	}
	for i := range 4 {
		n := 0
		for range all {
			if n == i {
				break
			}
			n++
		}
		if n != i {
			t.Errorf("left behind %d", n)
		}
	}
	if len(want) != 5 {
		t.Errorf("%d rules", len(want))
	}
}
