package filter_test

import (
	"strconv"
	"strings"
	"testing"

	"sieve/api"
	"sieve/filter"
	"sieve/policy"
)

// changed: the chapter's policy, changed.
func changed(change func(p *api.Policy)) api.Policy {
	p := plain()
	change(&p)
	return p
}

// manyDrops: so many names.
func manyDrops(n int) []string {
	var out []string
	for i := range n {
		out = append(out, "x"+strconv.Itoa(i))
	}
	return out
}

// wrongPolicies: policies that may not be, with Check's errors.
func wrongPolicies() map[string]struct {
	p api.Policy
	e api.Errno
} {
	type wrong = struct {
		p api.Policy
		e api.Errno
	}
	return map[string]wrong{
		"none":              {api.Policy{}, 144},
		"script":            {changed(func(p *api.Policy) { p.Elements[1].Name = "script" }), 140},
		"style":             {changed(func(p *api.Policy) { p.Elements[1].Name = "style" }), 140},
		"capital":           {changed(func(p *api.Policy) { p.Elements[1].Name = "B" }), 140},
		"no name":           {changed(func(p *api.Policy) { p.Elements[1].Name = "" }), 140},
		"twice":             {changed(func(p *api.Policy) { p.Elements[1].Name = "a" }), 140},
		"drop of a":         {changed(func(p *api.Policy) { p.Drop = []string{"a"} }), 140},
		"drop twice":        {changed(func(p *api.Policy) { p.Drop = []string{"svg", "svg"} }), 140},
		"drop of my-tag":    {changed(func(p *api.Policy) { p.Drop = []string{"my-tag"} }), 140},
		"onclick":           {changed(func(p *api.Policy) { p.Elements[0].Rules[0] = rule("onclick", 0) }), 141},
		"href of any":       {changed(func(p *api.Policy) { p.Elements[0].Rules[0] = rule("href", 0) }), 141},
		"kind 9":            {changed(func(p *api.Policy) { p.Elements[0].Rules[0] = rule("x", 9) }), 141},
		"kind -1":           {changed(func(p *api.Policy) { p.Elements[0].Rules[0] = rule("x", -1) }), 141},
		"oneof of none":     {changed(func(p *api.Policy) { p.Elements[0].Rules[0] = rule("x", 7) }), 141},
		"global style":      {changed(func(p *api.Policy) { p.Global = []api.Rule{rule("style", 0)} }), 141},
		"global twice":      {changed(func(p *api.Policy) { p.Global = []api.Rule{rule("x", 0), rule("x", 0)} }), 141},
		"li alone":          {changed(func(p *api.Policy) { p.Elements[1].Name = "li" }), 142},
		"td alone":          {changed(func(p *api.Policy) { p.Elements[1].Name = "td" }), 142},
		"javascript":        {changed(func(p *api.Policy) { p.Schemes = []string{"javascript"} }), 143},
		"scheme capital":    {changed(func(p *api.Policy) { p.Schemes = []string{"HTTP"} }), 143},
		"scheme twice":      {changed(func(p *api.Policy) { p.Schemes = []string{"x", "x"} }), 143},
		"depth 0":           {changed(func(p *api.Policy) { p.Depth = 0 }), 144},
		"depth 513":         {changed(func(p *api.Policy) { p.Depth = 513 }), 144},
		"window 15":         {changed(func(p *api.Policy) { p.Window = 15 }), 144},
		"window 2^20+1":     {changed(func(p *api.Policy) { p.Window = 1<<20 + 1 }), 144},
		"window at the end": {changed(func(p *api.Policy) { p.Window = -1 << 63 }), 144},
		"1001 things":       {changed(func(p *api.Policy) { p.Drop = manyDrops(998) }), 144},
		"two errors":        {changed(func(p *api.Policy) { p.Elements[1].Name = "li"; p.Depth = 0 }), 142},
	}
}

// P15.1, P15.3: policies that may not be, in New and in All; there the policy is looked at ahead of the tokens.
func TestWrongPolicy(t *testing.T) {
	for name, c := range wrongPolicies() {
		if e := policy.Check(c.p); e != c.e {
			t.Fatalf("%s: Check says %d", name, e)
		}
		f, e := filter.New(c.p)
		if f != nil || e != c.e {
			t.Errorf("%s: New: %v, %d", name, f, e)
		}
		for _, l := range [][]api.Token{nil, {}, {text("x")}, {text("")}, {text("x"), comment("x"), start("A")}} {
			if left, of, e := filter.All(c.p, l...); len(left) > 0 || len(of) > 0 || e != c.e {
				t.Errorf("%s: All: %v, %v, %d", name, left, of, e)
			}
		}
	}
}

// P15.1: policies that may just be.
func TestRightPolicy(t *testing.T) {
	long := strings.Repeat("x", 100)
	for name, p := range map[string]api.Policy{
		"ends below":      changed(func(p *api.Policy) { p.Depth, p.Window = 1, 16 }),
		"ends above":      changed(func(p *api.Policy) { p.Depth, p.Window = 512, 1<<20 }),
		"1000 things":     changed(func(p *api.Policy) { p.Drop = manyDrops(997) }),
		"nothing":         {Depth: 1, Window: 16},
		"nothing, lists":  {Elements: []api.Element{}, Global: []api.Rule{}, Schemes: []string{}, Drop: []string{}, Depth: 1, Window: 16},
		"long names":      changed(func(p *api.Policy) { p.Drop = []string{long}; p.Global = []api.Rule{rule(long, 7, long)} }),
		"drop of style":   changed(func(p *api.Policy) { p.Drop = []string{"style", "script", "br"} }),
		"attr everywhere": changed(func(p *api.Policy) { p.Global = []api.Rule{rule("href", 5), rule("class", 1)} }),
	} {
		f, e := filter.New(p)
		if f == nil || e != api.OK {
			t.Errorf("%s: %v, %d", name, f, e)
			continue
		}
		if x, n := f.Dropping(); x != "" || n != 0 {
			t.Errorf("%s: a new one drops %q, %d", name, x, n)
		}
		if l, of, e := f.Take(text("x")); len(l) != 1 || len(of) > 0 || e != api.OK {
			t.Errorf("%s: %v, %v, %d", name, l, of, e)
		}
	}
}

// R5: a filter that no call made.
func TestNotMade(t *testing.T) {
	for name, f := range map[string]*filter.Filter{"nil": nil, "zero": {}} {
		for range 2 {
			for _, x := range append(impossible(), text("x"), start("a", attr("href", "x")), start("svg"), start("script"), end("svg"), comment("x"), doctype()) {
				if l, of, e := f.Take(x); len(l) > 0 || len(of) > 0 || e != api.ErrMade {
					t.Errorf("%s: Take: %v, %v, %d", name, l, of, e)
				}
				if x, n := f.Dropping(); x != "" || n != 0 {
					t.Errorf("%s: Dropping: %q, %d", name, x, n)
				}
			}
		}
	}
}
