package nest_test

import (
	"math/rand"
	"strings"
	"testing"

	"sieve/api"
	"sieve/nest"
)

// odd: names that may stand nowhere.
var odd = []string{"", " ", "P", "Td", "script", "style", "title", "form", "svg", "my-tag", "p ", " p", "a b", "textarea\x00", "\xff", "ß", "area", "input", "h7", strings.Repeat("a", 101)}

func everyName() []string { return append(strings.Fields(allowed), odd...) }

// P16.1, P16.2, P16.4: what is told of every name in every stack of up to two of all names, right or not.
func TestShortStacks(t *testing.T) {
	t.Parallel()
	all := everyName()
	everyList(2, all, func(stack []string) {
		sameStack(t, stack)
		if len(stack) == 2 && !modelRight(stack) {
			same(t, stack, "b")
			same(t, stack, "script")
			return
		}
		for _, name := range all {
			same(t, stack, name)
		}
	})
}

// P16.1, P16.2, P16.4: of every stack of up to three of the names that are told apart, right or not.
func TestOddStacks(t *testing.T) {
	everyList(3, strings.Fields(some+" hr script"), func(stack []string) {
		if !modelRight(stack) {
			sameStack(t, stack)
			same(t, stack, "td")
			same(t, stack, "script")
		}
	})
}

// P16.1, P16.2, P16.4: in every right stack of up to four of the names that are told apart.
func TestRightStacks(t *testing.T) {
	t.Parallel()
	asked := strings.Fields(some + " h3 i menu tfoot col hr br pre script")
	rights(4, strings.Fields(some), func(stack []string) {
		sameStack(t, stack)
		for _, name := range asked {
			same(t, stack, name)
		}
	})
}

// P16.1, P16.2, P16.4: in right stacks of six, of a few names that make walls, and stand before and behind them.
func TestWalledStacks(t *testing.T) {
	t.Parallel()
	for _, few := range []string{"a p table tbody tr td", "h1 b table caption", "ul li table tbody tr th", "dl dd table tbody tr td", "table colgroup caption p a", "div ol li dl dt p"} {
		of := strings.Fields(few)
		asked := strings.Fields(some + " h3 col hr i menu tfoot")
		rights(6, of, func(stack []string) {
			sameStack(t, stack)
			for _, name := range asked {
				same(t, stack, name)
			}
		})
	}
}

// P16.1 to P16.5: in deep right stacks of any names, and in those with something changed.
func TestAnyStacks(t *testing.T) {
	t.Parallel()
	r := rand.New(rand.NewSource(16))
	all := everyName()
	for range 4000 {
		stack, _ := modelRun(anyNames(r, 40))
		sameStack(t, stack)
		for range 5 {
			same(t, stack, all[r.Intn(len(all))])
		}
		if len(stack) > 0 {
			stack[r.Intn(len(stack))] = all[r.Intn(len(all))]
			sameStack(t, stack)
			same(t, stack, all[r.Intn(len(all))])
		}
	}
}

// laws holds what follows of a right stack and a name against the calls.
func laws(t *testing.T, stack []string, name string) {
	t.Helper()
	p, e := nest.Open(stack, name)
	next, wrong := nest.Apply(stack, p)
	if e != api.OK || wrong != api.OK {
		t.Fatalf("%q, %q: %d, %d", stack, name, e, wrong)
	}
	// P16.6: it stays right.
	if !nest.Right(next...) || !one(name, voids) && !nest.Right(append(next, name)...) {
		t.Errorf("not right behind Open(%q, %q): %q", stack, name, next)
	}
	if ok, e := nest.May(next, name); !ok || e != api.OK {
		t.Errorf("May(%q, %q) behind its plan: %v, %d", next, name, ok, e)
	}
	n, e := nest.End(stack, name)
	if e != api.OK || n < 0 || n > len(stack) || !nest.Right(stack[:len(stack)-n]...) {
		t.Errorf("End(%q, %q): %d, %d", stack, name, n, e)
	}
	// P16.7: no more than is needed.
	if len(p.Insert) > 4 || p.Drop {
		t.Errorf("Open(%q, %q): %s", stack, name, showPlan(p))
	}
	if ok, _ := nest.May(stack, name); ok != (p.Close == 0 && len(p.Insert) == 0) {
		t.Errorf("May(%q, %q): %v", stack, name, ok)
	}
	// P16.9: of what is not in it none is closed, but of headings.
	if !one(name, headings) && topmost(stack, name) < 0 && n != 0 {
		t.Errorf("End(%q, %q): %d", stack, name, n)
	}
}

// stackLaws holds what follows of a right stack alone against the calls.
func stackLaws(t *testing.T, stack []string) {
	t.Helper()
	// P16.6: it stays right behind a text, and a text behind it asks nothing.
	for _, blank := range []bool{false, true} {
		p, e := nest.Text(stack, blank)
		next, wrong := nest.Apply(stack, p)
		if e != api.OK || wrong != api.OK || !nest.Right(next...) || len(p.Insert) > 4 {
			t.Errorf("Text(%q, %v): %s, %d", stack, blank, showPlan(p), e)
		}
		if p.Drop {
			continue
		}
		if p, e := nest.Text(next, blank); showPlan(p) != showPlan(api.Plan{}) || e != api.OK {
			t.Errorf("Text(%q, %v) behind its plan: %s, %d", next, blank, showPlan(p), e)
		}
	}
	// P16.9: the end of the top closes it alone.
	if len(stack) > 0 {
		if n, e := nest.End(stack, stack[len(stack)-1]); n != 1 || e != api.OK {
			t.Errorf("End(%q, its top): %d, %d", stack, n, e)
		}
	}
	tables(t, stack)
}

// tables: P16.8.
func tables(t *testing.T, stack []string) {
	t.Helper()
	on := map[string]string{"caption": "table", "colgroup": "table", "thead": "table", "tbody": "table", "tfoot": "table", "tr": groups, "td": "tr", "th": "tr", "li": lists, "dt": "dl", "dd": "dl"}
	for at, name := range stack {
		if below, ok := on[name]; ok && (at == 0 || !one(stack[at-1], below)) {
			t.Errorf("%q: %s", stack, name)
		}
		ahead := stack[:at]
		if one(name, blocks) && above(ahead, "p", walls) >= 0 {
			t.Errorf("%q: %s in a p", stack, name)
		}
		if name == "a" && above(ahead, "a", cells) >= 0 || one(name, headings) && above(ahead, headings, walls) >= 0 {
			t.Errorf("%q: %s in its like", stack, name)
		}
	}
}

// P16.6 to P16.9: in all right stacks of up to three names, of all names.
func TestLawsOfShortStacks(t *testing.T) {
	t.Parallel()
	all := strings.Fields(allowed)
	stacks := 0
	// Which stacks are right is asked of the program here: it is its stacks that P16.8 speaks of.
	everyList(3, strings.Fields(some), func(stack []string) {
		if !nest.Right(stack...) {
			return
		}
		stacks++
		stackLaws(t, stack)
		for _, name := range all {
			laws(t, stack, name)
		}
	})
	if stacks < 300 {
		t.Errorf("%d right stacks", stacks)
	}
}

// P16.6 to P16.9: in stacks that come of any names.
func TestLawsOfAnyStacks(t *testing.T) {
	r := rand.New(rand.NewSource(6))
	for range 1500 {
		stack, e := nest.Run(anyNames(r, 30)...)
		if e != api.OK || !nest.Right(stack...) {
			t.Fatalf("Run: %q, %d", stack, e)
		}
		stackLaws(t, stack)
		for _, name := range anyNames(r, 10) {
			laws(t, stack, name)
		}
	}
}
