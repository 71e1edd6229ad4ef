package policy_test

import (
	"math/rand"
	"slices"
	"strings"
	"testing"

	"sieve/api"
	"sieve/names"
	"sieve/policy"
)

// closedBy: a policy with what its elements need, again and again, by the chapter.
func closedBy(p api.Policy) api.Policy {
	has, more := map[string]bool{}, map[string]bool{}
	for _, e := range p.Elements {
		has[e.Name] = true
	}
	for changed := true; changed; {
		changed = false
		for _, name := range append(keys(has), keys(more)...) {
			for _, n := range needed(name) {
				if !has[n] && !more[n] {
					more[n], changed = true, true
				}
			}
		}
	}
	p.Elements = slices.Clone(p.Elements)
	for _, name := range keys(more) {
		p.Elements = append(p.Elements, api.Element{Name: name})
	}
	return p
}

// P14.3: what each element needs, rising; others nothing.
func TestNeeds(t *testing.T) {
	n := 0
	for _, name := range append(names.Known(), "", "LI", "x", "\xff", "li ", "Td") {
		got := policy.Needs(name)
		if !slices.Equal(got, needed(name)) || !slices.IsSorted(got) || slices.Contains(got, name) {
			t.Errorf("Needs(%q): %q", name, got)
		}
		if len(got) > 0 {
			n++
		}
	}
	if n != 17 {
		t.Errorf("%d elements need something", n)
	}
	for name, want := range map[string]string{"ol": "li", "dt": "dd dl", "td": "table tbody tr", "th": "table tbody td tr", "table": "tbody td tr", "col": "colgroup table tbody td tr", "b": ""} {
		if got := strings.Join(policy.Needs(name), " "); got != want {
			t.Errorf("Needs(%q): %q", name, got)
		}
	}
}

// P14.3: by hand: what is needed stands behind, rising, without rules, also what is needed by that alone.
func TestCloseByHand(t *testing.T) {
	for from, want := range map[string]string{
		"":               "",
		"b":              "b",
		"li":             "li ul",
		"ul":             "ul li",
		"ol":             "ol li ul",
		"menu b":         "menu b li ul",
		"dt":             "dt dd dl",
		"dl":             "dl dd",
		"td":             "td table tbody tr",
		"col":            "col colgroup table tbody td tr",
		"th ol dd":       "th ol dd dl li table tbody td tr ul",
		"tr table li ul": "tr table li ul tbody td",
		"ul ul":          "ul ul li",
		"script LI x":    "script LI x",
		"li li b li":     "li li b li ul",
	} {
		p := small(strings.Fields(from)...)
		if got := policy.Close(p); show(got) != show(small(strings.Fields(want)...)) {
			t.Errorf("Close(%q):\n%s", from, show(got))
		}
	}
}

// P14.3: all else of a policy stays as it stands, right or wrong, and no limit counts.
func TestCloseKeeps(t *testing.T) {
	p := small("td", "\xff")
	p.Elements[0].Rules = []api.Rule{rule("style", 99, "\xff", ""), rule("dir", 7, "LTR", "ltr")}
	p.Global = []api.Rule{rule("onx", -1, "A"), rule("onx", 0)}
	p.Schemes = []string{"javascript", "", "b", "a"}
	p.Drop = []string{"tr", "tr", "A"}
	p.Relative, p.Depth, p.Window = true, -7, 1<<40
	want := closedBy(p)
	if got := policy.Close(p); show(got) != show(want) || len(got.Elements) != 5 {
		t.Errorf("%s\nnot\n%s", show(got), show(want))
	}
	if got := policy.Close(api.Policy{}); !zero(got) {
		t.Errorf("of nothing: %s", show(got))
	}
}

// P14.3, P14.9: policies of any sort; Close of Close is Close; what is closed has no ErrPolicyClosed.
func TestCloseAny(t *testing.T) {
	rnd := rand.New(rand.NewSource(4))
	all := strings.Fields(allowable)
	for n := range 4000 {
		p := someAny(rnd)
		if n%2 == 0 {
			p = small()
			for range rnd.Intn(6) {
				p.Elements = append(p.Elements, api.Element{Name: all[rnd.Intn(len(all))], Rules: someRules(rnd)})
			}
		}
		c := policy.Close(p)
		if show(c) != show(closedBy(p)) {
			t.Fatalf("Close:\n%s\nof\n%s", show(c), show(p))
		}
		if again := policy.Close(c); show(again) != show(c) {
			t.Fatalf("again:\n%s\nof\n%s", show(again), show(c))
		}
		if e := policy.Check(c); e == api.ErrPolicyClosed {
			t.Fatalf("not closed:\n%s", show(c))
		}
	}
}
