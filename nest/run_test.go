package nest_test

import (
	"math"
	"math/rand"
	"strings"
	"testing"

	"sieve/api"
	"sieve/nest"
)

// P16.3: without the closed ones, with those that are put in; of any stack, right or not, and any names.
func TestApply(t *testing.T) {
	for _, c := range []struct {
		stack string
		plan  api.Plan
		want  string
	}{
		{"", api.Plan{}, ""},
		{"a b", api.Plan{}, "a b"},
		{"a b", api.Plan{Close: 1}, "a"},
		{"a b", api.Plan{Close: 2}, ""},
		{"", api.Plan{Insert: l("x", "y")}, "x y"},
		{"a b", api.Plan{Insert: l("x")}, "a b x"},
		{"a b", api.Plan{Close: 1, Insert: l("x", "y")}, "a x y"},
		{"a b", api.Plan{Close: 2, Insert: l("x")}, "x"},
		{"tr script br", api.Plan{Close: 1, Insert: l("P", "a")}, "tr script P a"},
		{"a b", api.Plan{Close: 1, Insert: l("x"), Drop: true}, "a x"},
		{"a b", api.Plan{Drop: true}, "a b"},
	} {
		if got, e := nest.Apply(strings.Fields(c.stack), c.plan); show(got) != show(strings.Fields(c.want)) || e != api.OK {
			t.Errorf("Apply(%s, %s): %q, %d", c.stack, showPlan(c.plan), got, e)
		}
	}
}

// P16.3: a Close below 0, or of more than there are.
func TestApplyErrors(t *testing.T) {
	for _, stack := range [][]string{nil, l("a"), l("a", "b", "c")} {
		for _, n := range []int{-1, math.MinInt, len(stack) + 1, math.MaxInt} {
			for _, in := range [][]string{nil, l("x")} {
				if got, e := nest.Apply(stack, api.Plan{Close: n, Insert: in}); len(got) > 0 || e != api.ErrArg {
					t.Errorf("Apply(%q, %d): %q, %d", stack, n, got, e)
				}
			}
		}
	}
}

// P16.4: all names that ask nothing, rising.
func TestKids(t *testing.T) {
	for line, want := range map[string]string{
		"table":                   "caption colgroup tbody tfoot thead",
		"table colgroup":          "col",
		"table thead":             "tr",
		"table tbody":             "tr",
		"table tbody tr":          "td th",
		"ul":                      "li",
		"ol":                      "li",
		"menu":                    "li",
		"dl":                      "dd dt",
		"textarea":                "",
		"p textarea":              "",
		"":                        without("caption col colgroup dd dt li tbody td tfoot th thead tr"),
		"div":                     without("caption col colgroup dd dt li tbody td tfoot th thead tr"),
		"a":                       without("a caption col colgroup dd dt li tbody td tfoot th thead tr"),
		"h1 b":                    without("h1 h2 h3 h4 h5 h6 caption col colgroup dd dt li tbody td tfoot th thead tr"),
		"p":                       without(blocks + " caption col colgroup tbody td tfoot th thead tr"),
		"a h1 table tbody tr td":  without("caption col colgroup dd dt li tbody td tfoot th thead tr"),
		"div p b":                 without(blocks + " caption col colgroup tbody td tfoot th thead tr"),
		"a table caption p":       without(blocks + " caption col colgroup tbody td tfoot th thead tr"),
		"table tbody tr td table": "caption colgroup tbody tfoot thead",
	} {
		if got, e := nest.Kids(strings.Fields(line)...); show(got) != show(strings.Fields(want)) || e != api.OK {
			t.Errorf("Kids(%s): %q, %d", line, got, e)
		}
	}
	for _, line := range []string{"tr", "script", "br", "textarea b", "p p", "table colgroup col"} {
		if got, e := nest.Kids(strings.Fields(line)...); len(got) > 0 || e != api.ErrNestStack {
			t.Errorf("Kids(%s): %q, %d", line, got, e)
		}
	}
}

// without: all names that are allowed, without some.
func without(some string) string {
	var out []string
	for _, name := range strings.Fields(allowed) {
		if !one(name, some) {
			out = append(out, name)
		}
	}
	return strings.Join(out, " ")
}

// P16.5: the stack that comes of opening elements one behind the other.
func TestRun(t *testing.T) {
	for names, want := range map[string]string{
		"":                       "",
		"td li b tr":             "table tbody tr",
		"b":                      "b",
		"br":                     "",
		"br hr img wbr":          "",
		"p br b":                 "p b",
		"p b hr i":               "i",
		"col":                    "table colgroup",
		"col col b":              "table tbody tr td b",
		"li":                     "ul li",
		"li li dt":               "ul li dl dt",
		"dt dd li":               "dl dd ul li",
		"p p p":                  "p",
		"a b a":                  "a",
		"h1 b h2 h3":             "h3",
		"textarea textarea b":    "b",
		"p td":                   "table tbody tr td",
		"caption p tr":           "table tbody tr",
		"table br":               "table tbody tr td",
		"ul img":                 "ul li",
		"td table td a":          "table tbody tr td table tbody tr td a",
		"a td a td":              "a table tbody tr td",
		"dl b":                   "dl dd b",
		"thead th tfoot td":      "table tfoot tr td",
		"table colgroup b":       "table tbody tr td b",
		"menu menu menu":         "menu li menu li menu",
		"center center textarea": "center center textarea",
	} {
		if got, e := nest.Run(strings.Fields(names)...); show(got) != show(strings.Fields(want)) || e != api.OK {
			t.Errorf("Run(%s): %q, %d", names, got, e)
		}
	}
}

// P16.5: a name that is not in SetAllow, at each place.
func TestRunErrors(t *testing.T) {
	for _, name := range odd {
		for _, names := range [][]string{{name}, {"b", name}, {name, "b"}, {"td", "br", name, "b"}} {
			if got, e := nest.Run(names...); len(got) > 0 || e != api.ErrNestName {
				t.Errorf("Run(%q): %q, %d", names, got, e)
			}
		}
	}
}

// P16.5: all short lists of the names that are told apart, and long ones of any, against the model and the other calls.
func TestRunAny(t *testing.T) {
	t.Parallel()
	check := func(names []string) {
		want, wrong := modelRun(names)
		got, e := nest.Run(names...)
		if show(got) != show(want) || e != wrong {
			t.Errorf("Run(%q): %q, %d; not %q, %d", names, got, e, want, wrong)
		}
	}
	everyList(3, strings.Fields(some+" hr br script"), check)
	r := rand.New(rand.NewSource(5))
	for range 3000 {
		names := anyNames(r, 60)
		check(names)
		check(append(names, "script"))
		var stack []string
		for _, name := range names {
			p, _ := nest.Open(stack, name)
			if stack, _ = nest.Apply(stack, p); !one(name, voids) {
				stack = append(stack, name)
			}
		}
		if got, e := nest.Run(names...); show(got) != show(stack) || e != api.OK {
			t.Errorf("Run(%q): %q, %d; Open and Apply: %q", names, got, e, stack)
		}
	}
}

// P16.5: a long run, and stacks as deep as it makes them.
func TestRunLong(t *testing.T) {
	stack, e := nest.Run(deep(3000, "td", "ul", "li", "table")...)
	if want := deep(3000, "table", "tbody", "tr", "td", "ul", "li"); e != api.OK || show(stack) != show(append(want, "table")) {
		t.Errorf("%d names, %d", len(stack), e)
	}
	if !nest.Right(stack...) {
		t.Error("a long run's stack is not right")
	}
	if n, e := nest.End(stack, "table"); n != 1 || e != api.OK {
		t.Errorf("End: %d, %d", n, e)
	}
}
