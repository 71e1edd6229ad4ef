package nest_test

import (
	"fmt"
	"math/rand"
	"slices"
	"strings"
	"testing"

	"sieve/api"
	"sieve/nest"
)

// What the chapters say, typed apart from the program.
const (
	allowed  = "a abbr address article aside b bdi bdo blockquote br caption center cite code col colgroup data dd del details dfn dialog div dl dt em figcaption figure footer h1 h2 h3 h4 h5 h6 header hgroup hr i img ins kbd label li main mark menu nav ol p pre q s samp search section small span strong sub summary sup table tbody td textarea tfoot th thead time tr u ul var wbr"
	voids    = "area base br col embed hr img input link meta source track wbr"
	headings = "h1 h2 h3 h4 h5 h6"
	blocks   = "address article aside blockquote center dd details dialog dir div dl dt fieldset figcaption figure footer form h1 h2 h3 h4 h5 h6 header hgroup hr li listing main menu nav ol p plaintext pre search section summary table ul xmp"
	cells    = "td th caption"
	walls    = "td th caption table"
	groups   = "thead tbody tfoot"
	lists    = "ul ol menu"
	bases    = "colgroup table thead tbody tfoot tr ul ol menu dl" // those on which something must be put in
)

// one: is a name one of some?
func one(name, of string) bool {
	for s := range strings.SplitSeq(of, " ") {
		if s == name {
			return true
		}
	}
	return false
}

// topmost: where the topmost one of some names stands; -1 if none does.
func topmost(stack []string, of string) int {
	for at := len(stack) - 1; at >= 0; at-- {
		if one(stack[at], of) {
			return at
		}
	}
	return -1
}

// above: where the topmost one of some names stands, if that is above the topmost one of others; else -1.
func above(stack []string, of, others string) int {
	if at := topmost(stack, of); at > topmost(stack, others) {
		return at
	}
	return -1
}

// with: a stack that is closed with what stands at a place; as it is, if that is nowhere.
func with(stack []string, at int) []string {
	if at < 0 {
		return stack
	}
	return stack[:at]
}

// modelBy4: step 4.
func modelBy4(stack []string) (left, in []string) {
	if len(stack) == 0 {
		return nil, nil
	}
	top := stack[len(stack)-1]
	if top == "colgroup" {
		stack, top = stack[:len(stack)-1], "table"
	}
	switch {
	case top == "table":
		return stack, l("tbody", "tr", "td")
	case one(top, groups):
		return stack, l("tr", "td")
	case top == "tr":
		return stack, l("td")
	case one(top, lists):
		return stack, l("li")
	case top == "dl":
		return stack, l("dd")
	}
	return stack, nil
}

// modelOwn: step 3.
func modelOwn(stack []string, name string) (left, in []string) {
	put := func(more ...string) ([]string, []string) {
		left, in := modelBy4(stack)
		return left, append(in, more...)
	}
	untabled := func(more ...string) ([]string, []string) {
		stack = with(stack, above(stack, "p", walls))
		return put(append(l("table"), more...)...)
	}
	table := topmost(stack, "table")
	switch {
	case name == "li":
		if at := above(stack, lists, walls); at >= 0 {
			return stack[:at+1], nil
		}
		return put("ul")
	case name == "dt" || name == "dd":
		if at := above(stack, "dl", walls); at >= 0 {
			return stack[:at+1], nil
		}
		return put("dl")
	case name == "caption" || name == "colgroup" || one(name, groups):
		if table >= 0 {
			return stack[:table+1], nil
		}
		return untabled()
	case name == "col":
		if at := topmost(stack, "colgroup"); at > table {
			return stack[:at+1], nil
		}
		if table >= 0 {
			return stack[:table+1], l("colgroup")
		}
		return untabled("colgroup")
	case name == "tr":
		if at := topmost(stack, groups+" table"); at >= 0 && at > table {
			return stack[:at+1], nil
		}
		if table >= 0 {
			return stack[:table+1], l("tbody")
		}
		return untabled("tbody")
	case name == "td" || name == "th":
		at := topmost(stack, "tr table "+groups)
		if at < 0 {
			return untabled("tbody", "tr")
		}
		switch stack = stack[:at+1]; {
		case stack[at] == "table":
			return stack, l("tbody", "tr")
		case stack[at] == "tr":
			return stack, nil
		}
		return stack, l("tr")
	}
	return put()
}

// modelAsks: what an element's name asks of a stack.
func modelAsks(stack []string, name string) api.Plan {
	left := stack
	if len(left) > 0 && left[len(left)-1] == "textarea" {
		left = left[:len(left)-1]
	}
	if name == "a" {
		left = with(left, above(left, "a", cells))
	}
	if one(name, headings) {
		left = with(left, above(left, headings, walls))
	}
	if one(name, blocks) {
		left = with(left, above(left, "p", walls))
	}
	left, in := modelOwn(left, name)
	return api.Plan{Close: len(stack) - len(left), Insert: in}
}

// modelRight: is a stack right?
func modelRight(stack []string) bool {
	for at, name := range stack {
		p := modelAsks(stack[:at], name)
		if !one(name, allowed) || one(name, voids) || p.Close > 0 || len(p.Insert) > 0 {
			return false
		}
		if name == "textarea" && at < len(stack)-1 {
			return false
		}
	}
	return true
}

func modelOpen(stack []string, name string) (api.Plan, api.Errno) {
	switch {
	case !modelRight(stack):
		return api.Plan{}, api.ErrNestStack
	case !one(name, allowed):
		return api.Plan{}, api.ErrNestName
	}
	return modelAsks(stack, name), api.OK
}

func modelText(stack []string, blank bool) (api.Plan, api.Errno) {
	if !modelRight(stack) {
		return api.Plan{}, api.ErrNestStack
	}
	if blank && len(stack) > 0 && one(stack[len(stack)-1], bases) {
		return api.Plan{Drop: true}, api.OK
	}
	left, in := modelBy4(stack)
	return api.Plan{Close: len(stack) - len(left), Insert: in}, api.OK
}

func modelEnd(stack []string, name string) (int, api.Errno) {
	if !modelRight(stack) {
		return 0, api.ErrNestStack
	}
	at := -1
	switch {
	case len(name) == 0 || strings.Contains(name, " ") || one(name, voids):
	case one(name, headings):
		at = above(stack, headings, walls)
	case name == "table":
		at = topmost(stack, "table")
	case one(name, "caption colgroup tr td th "+groups):
		at = above(stack, name, "table")
	default:
		at = above(stack, name, walls)
	}
	if at < 0 {
		return 0, api.OK
	}
	return len(stack) - at, api.OK
}

// behind: a stack behind a plan, and then with some names.
func behind(stack []string, p api.Plan, more ...string) []string {
	return slices.Concat(stack[:len(stack)-p.Close], p.Insert, more)
}

func l(s ...string) []string { return s }

// deep: a stack of some names again and again.
func deep(times int, of ...string) []string { return slices.Repeat(of, times) }

// show: a list, none and an empty one alike.
func show(s []string) string { return fmt.Sprintf("%q", s) }

// showPlan: a plan likewise.
func showPlan(p api.Plan) string {
	return fmt.Sprintf("Close %d, Insert %s, Drop %v", p.Close, show(p.Insert), p.Drop)
}

// same holds all that is told of a name and a stack against the model.
func same(t *testing.T, stack []string, name string) {
	t.Helper()
	want, wrong := modelOpen(stack, name)
	p, e := nest.Open(stack, name)
	if showPlan(p) != showPlan(want) || e != wrong {
		t.Errorf("Open(%q, %q): %s, %d; not %s, %d", stack, name, showPlan(p), e, showPlan(want), wrong)
	}
	wants := wrong == api.OK && want.Close == 0 && len(want.Insert) == 0
	if ok, e := nest.May(stack, name); ok != wants || e != wrong {
		t.Errorf("May(%q, %q): %v, %d; not %v, %d", stack, name, ok, e, wants, wrong)
	}
	n, wrong := modelEnd(stack, name)
	if got, e := nest.End(stack, name); got != n || e != wrong {
		t.Errorf("End(%q, %q): %d, %d; not %d, %d", stack, name, got, e, n, wrong)
	}
}

// sameStack holds all that is told of a stack alone against the model.
func sameStack(t *testing.T, stack []string) {
	t.Helper()
	if got, want := nest.Right(stack...), modelRight(stack); got != want {
		t.Errorf("Right(%q): %v", stack, got)
	}
	for _, blank := range []bool{false, true} {
		want, wrong := modelText(stack, blank)
		if p, e := nest.Text(stack, blank); showPlan(p) != showPlan(want) || e != wrong {
			t.Errorf("Text(%q, %v): %s, %d; not %s, %d", stack, blank, showPlan(p), e, showPlan(want), wrong)
		}
	}
	kids, wrong := modelKids(stack)
	if got, e := nest.Kids(stack...); show(got) != show(kids) || e != wrong {
		t.Errorf("Kids(%q): %q, %d; not %q, %d", stack, got, e, kids, wrong)
	}
}

func modelKids(stack []string) ([]string, api.Errno) {
	if !modelRight(stack) {
		return nil, api.ErrNestStack
	}
	var out []string
	for _, name := range strings.Fields(allowed) {
		if p := modelAsks(stack, name); p.Close == 0 && len(p.Insert) == 0 {
			out = append(out, name)
		}
	}
	return out, api.OK
}

func modelRun(names []string) ([]string, api.Errno) {
	var stack []string
	for _, name := range names {
		if !one(name, allowed) {
			return nil, api.ErrNestName
		}
		stack = behind(stack, modelAsks(stack, name))
		if !one(name, voids) {
			stack = append(stack, name)
		}
	}
	return stack, api.OK
}

// some: one of each kind that the chapter tells apart, and more of those that have several.
const some = "p b a h1 h2 div ul ol li dl dt dd table caption colgroup tbody thead tr td th textarea"

// rights calls with all right stacks of at most so many of some names.
func rights(most int, of []string, call func(stack []string)) {
	var grow func(stack []string)
	grow = func(stack []string) {
		call(stack)
		if len(stack) == most {
			return
		}
		for _, name := range of {
			if more := append(slices.Clone(stack), name); modelRight(more) {
				grow(more)
			}
		}
	}
	grow(nil)
}

// everyList calls with all lists of at most so many of some names.
func everyList(most int, of []string, call func(names []string)) {
	var grow func(names []string)
	grow = func(names []string) {
		call(names)
		if len(names) == most {
			return
		}
		for _, name := range of {
			grow(append(slices.Clone(names), name))
		}
	}
	grow(nil)
}

// anyNames: a list of any names, those of tables and lists more often.
func anyNames(r *rand.Rand, most int) []string {
	often, all := strings.Fields(some), strings.Fields(allowed)
	out := make([]string, r.Intn(most+1))
	for at := range out {
		if out[at] = often[r.Intn(len(often))]; r.Intn(3) == 0 {
			out[at] = all[r.Intn(len(all))]
		}
	}
	return out
}
