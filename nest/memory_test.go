package nest_test

import (
	"slices"
	"strings"
	"sync"
	"testing"

	"sieve/api"
	"sieve/nest"
)

// roomy: a list in new memory, with room behind its end, in which names stand.
func roomy(s []string) []string {
	return append(slices.Clone(s), "room", "table", "li", "p", "td", "b")[:len(s)]
}

// whole: a list with all that stands in the room behind its end.
func whole(s []string) string { return show(s[:cap(s)]) }

// scrawl changes all of a list, and the room behind.
func scrawl(s []string) {
	s = s[:cap(s)]
	for at := range s {
		s[at] = "scrawl"
	}
}

// stacksOfAll: right ones that ask all kinds of things of names, and some that are not right.
var stacksOfAll = []string{"", "p b", "a b", "table", "table colgroup", "table tbody", "table tbody tr", "ul", "dl", "h1 b", "div p textarea", "table tbody tr td p", "tr", "script", "p br"}

// calls: each call with a stack, a list for Insert and a name; what it answers, and its lists.
func calls(stack, in []string, name string) (told string, lists [][]string) {
	tell := func(s string, e api.Errno, some ...[]string) {
		told += s + " " + e.Error() + "; "
		for _, l := range some {
			told += show(l) + "; "
		}
		lists = append(lists, some...)
	}
	p, e := nest.Open(stack, name)
	tell(showPlan(p), e, p.Insert)
	for _, blank := range []bool{false, true} {
		p, e = nest.Text(stack, blank)
		tell(showPlan(p), e, p.Insert)
	}
	n, e := nest.End(stack, name)
	tell(strings.Repeat("|", n), e)
	for _, plan := range []api.Plan{{Insert: in}, {Close: len(stack), Insert: in}, {Close: len(stack)}, {}, {Close: len(stack) + 1}} {
		s, e := nest.Apply(stack, plan)
		tell("", e, s)
	}
	ok, e := nest.May(stack, name)
	tell(map[bool]string{true: "may"}[ok], e)
	s, e := nest.Kids(stack...)
	tell("", e, s)
	s, e = nest.Run(stack...)
	tell("", e, s)
	tell(map[bool]string{true: "right"}[nest.Right(stack...)], api.OK)
	return told, lists
}

// R3: what is handed in is not changed, nor what lies in the room behind it.
func TestHandedIn(t *testing.T) {
	for _, line := range stacksOfAll {
		for _, name := range []string{"td", "li", "a", "h2", "div", "col", "br", "script", "textarea"} {
			stack, in := roomy(strings.Fields(line)), roomy(l("x", "y"))
			was := whole(stack) + whole(in)
			first, _ := calls(stack, in, name)
			if whole(stack)+whole(in) != was {
				t.Errorf("%s, %s: changed to %s and %s", line, name, whole(stack), whole(in))
			}
			if again, _ := calls(stack, in, name); again != first {
				t.Errorf("%s, %s: %s; again: %s", line, name, first, again)
			}
		}
	}
}

// R3: an answer is new memory, its spare room too: changing it changes nothing else, and no two lists share any.
func TestAnswers(t *testing.T) {
	for _, line := range stacksOfAll {
		for _, name := range []string{"td", "li", "a", "h2", "b", "col", "br"} {
			stack, in := roomy(strings.Fields(line)), roomy(l("x", "y"))
			was := whole(stack) + whole(in)
			want, lists := calls(stack, in, name)
			for at, l := range lists {
				others := ""
				for _, other := range lists[at+1:] {
					others += whole(other)
				}
				scrawl(l)
				for _, other := range lists[at+1:] {
					others = strings.TrimPrefix(others, whole(other))
				}
				if others != "" {
					t.Errorf("%s, %s: list %d shares memory with another one", line, name, at)
				}
			}
			if whole(stack)+whole(in) != was {
				t.Errorf("%s, %s: an answer shares memory with what was handed in", line, name)
			}
			if got, _ := calls(stack, in, name); got != want {
				t.Errorf("%s, %s: %s; once: %s", line, name, got, want)
			}
		}
	}
}

// R3: what is handed in may be changed behind the call.
func TestChangedBehind(t *testing.T) {
	for _, line := range stacksOfAll {
		stack, in := roomy(strings.Fields(line)), roomy(l("x", "y"))
		_, lists := calls(stack, in, "td")
		var was []string
		for _, l := range lists {
			was = append(was, whole(l))
		}
		scrawl(stack)
		scrawl(in)
		for at, l := range lists {
			if whole(l) != was[at] {
				t.Errorf("%s: list %d was %s, is %s", line, at, was[at], whole(l))
			}
		}
	}
}

// R3: nil and empty lists are the same.
func TestNilAndEmpty(t *testing.T) {
	for _, name := range []string{"td", "b", "script"} {
		one, _ := calls(nil, nil, name)
		if other, _ := calls([]string{}, []string{}, name); other != one {
			t.Errorf("%s: %s; of nil: %s", name, other, one)
		}
	}
	if !nest.Right() || !nest.Right([]string{}...) {
		t.Error("the empty stack is not right")
	}
}

// R4: nothing is kept: the calls of many goroutines, over the same lists, answer what each answers alone.
func TestGoroutines(t *testing.T) {
	names := []string{"td", "li", "a", "h2", "div", "col"}
	in := roomy(l("x", "y"))
	var wg sync.WaitGroup
	for _, line := range stacksOfAll {
		stack := roomy(strings.Fields(line))
		for _, name := range names {
			want, _ := calls(slices.Clone(stack), l("x", "y"), name)
			for range 3 {
				wg.Go(func() {
					if got, _ := calls(stack, in, name); got != want {
						t.Errorf("%s, %s: %s; alone: %s", line, name, got, want)
					}
				})
			}
		}
	}
	wg.Wait()
}
