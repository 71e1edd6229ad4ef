package policy_test

import (
	"math/rand"
	"slices"
	"strings"
	"testing"

	"sieve/api"
	"sieve/policy"
)

// wrongPolicies: a policy for each error that Check has.
func wrongPolicies() map[api.Errno]api.Policy {
	limit := small("b")
	limit.Depth = 513
	scheme := small("b")
	scheme.Schemes = []string{"javascript"}
	return map[api.Errno]api.Policy{
		api.ErrPolicyElement: small("script"),
		api.ErrPolicyAttr:    ruled(rule("style", 0)),
		api.ErrPolicyClosed:  small("li"),
		api.ErrPolicyScheme:  scheme,
		api.ErrPolicyLimit:   limit,
	}
}

// P14.4: by hand.
func TestTidyByHand(t *testing.T) {
	p := small("p", "b", "a")
	p.Elements[0].Rules = []api.Rule{rule("title", 0), rule("dir", 7, "rtl", "LTR", "Auto", "auto", "[", "Z", "_"), rule("class", 1)}
	p.Global = []api.Rule{rule("lang", 6), rule("dir", 7, "B", "b", "B"), rule("a-b", 8), rule("a", 0)}
	p.Schemes = []string{"mailto", "http", "a.b", "a", "a+b"}
	p.Drop = []string{"svg", "math", "h10", "h1", "x"}
	p.Relative, p.Depth, p.Window = true, 512, 1<<20
	want := small("a", "b", "p")
	want.Elements[2].Rules = []api.Rule{rule("class", 1), rule("dir", 7, "[", "_", "auto", "ltr", "rtl", "z"), rule("title", 0)}
	want.Global = []api.Rule{rule("a", 0), rule("a-b", 8), rule("dir", 7, "b"), rule("lang", 6)}
	want.Schemes = []string{"a", "a+b", "a.b", "http", "mailto"}
	want.Drop = []string{"h1", "h10", "math", "svg", "x"}
	want.Relative, want.Depth, want.Window = true, 512, 1<<20
	got, e := policy.Tidy(p)
	if e != api.OK || show(got) != show(want) {
		t.Errorf("%d:\n%s", e, show(got))
	}
	if got, e := policy.Tidy(small()); e != api.OK || show(got) != show(small()) {
		t.Errorf("of nothing: %d:\n%s", e, show(got))
	}
}

// P14.4: Check's error, and nothing else; words that stand twice count twice for Check.
func TestTidyWrong(t *testing.T) {
	for want, p := range wrongPolicies() {
		if got, e := policy.Tidy(p); e != want || !zero(got) {
			t.Errorf("%d, not %d:\n%s", e, want, show(got))
		}
	}
	p := ruled(rule("dir", 7, strings.Fields(strings.Repeat("x ", 998))...))
	if got, e := policy.Tidy(p); e != api.OK || count(got) != 3 {
		t.Errorf("%d, %d things", e, count(got))
	}
	p = ruled(rule("dir", 7, strings.Fields(strings.Repeat("x ", 999))...))
	if got, e := policy.Tidy(p); e != api.ErrPolicyLimit || !zero(got) {
		t.Errorf("%d, %d things", e, count(got))
	}
}

// P14.4, P14.10: policies of any sort; Tidy of Tidy is Tidy, and asked it answers as what it is of.
func TestTidyAny(t *testing.T) {
	rnd := rand.New(rand.NewSource(5))
	for range 4000 {
		p := someAny(rnd)
		got, e := policy.Tidy(p)
		if e != errorOf(p) || e != api.OK && !zero(got) {
			t.Fatalf("%d:\n%s\nof\n%s", e, show(got), show(p))
		}
		if e != api.OK {
			continue
		}
		if show(got) != show(tidied(p)) {
			t.Fatalf("\n%s\nof\n%s", show(got), show(p))
		}
		if again, e := policy.Tidy(got); e != api.OK || show(again) != show(got) {
			t.Fatalf("again: %d:\n%s\nof\n%s", e, show(again), show(got))
		}
		asAlike(t, got, p)
	}
}

// asAlike: Element, Rule and Dropped of two policies are the same, but for the order and the capitals of words.
func asAlike(t *testing.T, a, b api.Policy) {
	t.Helper()
	for _, name := range askNames {
		one, ok := policy.Element(a, name)
		two, ok2 := policy.Element(b, name)
		if ok != ok2 || one.Name != two.Name || len(one.Rules) != len(two.Rules) {
			t.Fatalf("Element(%q): %v, %v", name, one, two)
		}
		if policy.Dropped(a, name) != policy.Dropped(b, name) {
			t.Fatalf("Dropped(%q)", name)
		}
		for _, attr := range askAttrs {
			one, ok := policy.Rule(a, name, attr)
			two, ok2 := policy.Rule(b, name, attr)
			if ok != ok2 || one.Name != two.Name || one.Kind != two.Kind || !slices.Equal(smallWords(one.Words), smallWords(two.Words)) {
				t.Fatalf("Rule(%q, %q): %v, %v", name, attr, one, two)
			}
		}
	}
}

// smallWords: words in small letters, rising, each once.
func smallWords(l []string) []string {
	m := map[string]bool{}
	for _, w := range l {
		m[strings.ToLower(w)] = true
	}
	return keys(m)
}
