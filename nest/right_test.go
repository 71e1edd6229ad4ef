package nest_test

import (
	"strings"
	"testing"

	"sieve/nest"
)

// rightOnes and wrongOnes hold stacks, written with spaces between their names, against Right.
func rightOnes(t *testing.T, stacks ...string) {
	t.Helper()
	for _, s := range stacks {
		if !nest.Right(strings.Fields(s)...) {
			t.Errorf("Right(%s): false", s)
		}
	}
}

func wrongOnes(t *testing.T, stacks ...string) {
	t.Helper()
	for _, s := range stacks {
		if nest.Right(strings.Fields(s)...) {
			t.Errorf("Right(%s): true", s)
		}
	}
}

// P16.1: the chapter's examples, and a stack of no name.
func TestRightExamples(t *testing.T) {
	rightOnes(t, "", "ul li p")
	wrongOnes(t, "table tr")
}

// P16.1: a name that is not in SetAllow, at each place.
func TestRightNotAllowed(t *testing.T) {
	wrongOnes(t, "script", "style", "title", "form", "input", "P", "div script", "script div", "div svg b", "my-tag", "p h7")
	for _, s := range []string{"", " ", "p ", "\xff", "p\x00"} {
		if nest.Right(s) || nest.Right("div", s) || nest.Right(s, "div") {
			t.Errorf("Right with %q: true", s)
		}
	}
}

// P16.1: a name of SetVoid, at each place.
func TestRightVoid(t *testing.T) {
	wrongOnes(t, "br", "hr", "img", "wbr", "p br", "br b", "table colgroup col", "area")
}

// P16.1: a name that asks something of those ahead of it.
func TestRightAsks(t *testing.T) {
	wrongOnes(t, "p div", "p p", "p b ul", "a a", "a b a", "h1 h2", "h1 b h1", "li", "dt", "dd", "td", "tr", "tbody", "caption", "colgroup",
		"ul b", "ul ul", "ul li li", "ol li b li", "dl li", "ul dt", "dl dt dd", "table b", "table td", "table tbody td", "table tbody tr b",
		"table tbody tr td tr", "table tbody tbody", "table colgroup b", "table colgroup tbody", "ul li table tbody tr td li", "table caption tr")
	rightOnes(t, "p b", "div p", "div div div", "a b i", "b b b", "h1 b a", "ul li", "ol li ul li", "menu li b", "dl dt", "dl dd dl dt",
		"table", "table caption", "table colgroup", "table thead", "table tbody tr th", "table tfoot tr td", "table caption b",
		"a table tbody tr td a", "table tbody tr td table tbody tr td", "h1 table caption h2", "ul li table tbody tr td ul li", "dl dd table caption dl dt", "b", "div a p")
}

// P16.1: walls: a table is one for p and headings, but not for a, and p does not stand around a table.
func TestRightWalls(t *testing.T) {
	wrongOnes(t, "p table", "p b table tbody tr td", "a table a", "a table tbody tr a", "h1 ul li h2", "p span div")
	rightOnes(t, "h1 table tbody tr td h2", "div table tbody tr td p", "table caption p b", "a table caption a", "table tbody tr td p")
}

// P16.1: textarea stands at the top alone.
func TestRightTextarea(t *testing.T) {
	rightOnes(t, "textarea", "p textarea", "table tbody tr td textarea", "ul li textarea")
	wrongOnes(t, "textarea b", "textarea textarea", "div textarea p", "textarea table", "ul textarea")
}

// P16.1: deep stacks, and ones that are wrong at their beginning or their end alone.
func TestRightDeep(t *testing.T) {
	for _, of := range []string{"div", "span", "ul li", "dl dd", "table tbody tr td", "h1 table caption", "a table tbody tr td", "div b"} {
		stack := deep(4096, strings.Fields(of)...)
		if !nest.Right(stack...) {
			t.Errorf("%s, many times: false", of)
		}
		if nest.Right(append(stack, "br")...) || nest.Right(append(l("script"), stack...)...) || nest.Right(append(l("textarea"), stack...)...) {
			t.Errorf("%s, many times, and a wrong one: true", of)
		}
	}
	if nest.Right(append(append(l("p"), deep(4096, "span")...), "div")...) || nest.Right(append(append(l("a"), deep(4096, "div")...), "a")...) {
		t.Error("what is closed stands far below: true")
	}
}
