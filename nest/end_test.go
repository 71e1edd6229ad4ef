package nest_test

import (
	"strings"
	"testing"

	"sieve/api"
	"sieve/nest"
)

// ends holds lines such as "ul li b | ul | 3" (a stack, a name, how many are closed) against End.
func ends(t *testing.T, lines ...string) {
	t.Helper()
	for _, line := range lines {
		part := strings.Split(line, "|")
		if n, e := nest.End(strings.Fields(part[0]), strings.TrimSpace(part[1])); n != number(part[2]) || e != api.OK {
			t.Errorf("%s: %d, %d", line, n, e)
		}
	}
}

// P16.2: the chapter's examples.
func TestEndExamples(t *testing.T) {
	ends(t, "ul li b | ul | 3", "b table tbody tr td | b | 0", "h1 b | h3 | 2")
}

// P16.2: headings are closed by the end tags of each other, up to the topmost wall.
func TestEndHeading(t *testing.T) {
	for _, name := range strings.Fields(headings) {
		for _, line := range []string{
			"h1 | # | 1",
			"h6 b i | # | 3",
			"div h3 | # | 1",
			"h2 div p | # | 3",
			"h1 ul li | # | 3",
			"h1 table | # | 0",
			"h1 table tbody tr td | # | 0",
			"h1 table caption | # | 0",
			"h1 table tbody tr th h2 b | # | 2",
			"p b | # | 0",
			" | # | 0",
			"h1 textarea | # | 2",
		} {
			ends(t, strings.Replace(line, "#", name, 1))
		}
	}
	ends(t, "h1 b | h7 | 0", "h1 | h | 0", "h1 | H1 | 0", "h1 | p | 0")
}

// P16.2: table: the topmost one, wherever it stands.
func TestEndTable(t *testing.T) {
	ends(t,
		"table | table | 1",
		"b table tbody tr td | table | 4",
		"table caption b | table | 3",
		"table colgroup | table | 2",
		"table tbody tr td table tbody | table | 2",
		"table tbody tr td div p b | table | 7",
		"div | table | 0",
		" | table | 0")
}

// P16.2: parts of a table: the topmost one of that name above the topmost table.
func TestEndParts(t *testing.T) {
	ends(t,
		"table caption p b | caption | 3",
		"table colgroup | colgroup | 1",
		"table thead tr th b | thead | 4",
		"table tbody tr td | tbody | 3",
		"table tfoot | tfoot | 1",
		"table tbody tr td ul li | tr | 4",
		"table tbody tr td b | td | 2",
		"table tbody tr th b | th | 2",
		"table tbody tr td | th | 0",
		"table tbody tr td | thead | 0",
		"table tbody tr td | colgroup | 0",
		"table tbody tr td | caption | 0",
		"table tbody tr td table | td | 0",
		"table tbody tr td table | tr | 0",
		"table tbody tr td table | tbody | 0",
		"table tbody tr td table caption | td | 0",
		"table caption table | caption | 0",
		"table tbody tr td table tbody tr td b | tr | 3",
		"table tbody tr td table thead tr | tbody | 0",
		"table | tr | 0",
		"div | td | 0",
		" | tbody | 0")
}

// P16.2: all others: the topmost one of that name above the topmost wall.
func TestEndOthers(t *testing.T) {
	ends(t,
		"p | p | 1",
		"b i b i | b | 2",
		"div div p | div | 2",
		"a b div i | a | 4",
		"ul li ul li b | li | 2",
		"ul li ul li b | ul | 3",
		"ul li table | ul | 0",
		"ul li table | li | 0",
		"ul li table tbody tr td | li | 0",
		"a table | a | 0",
		"b table caption | b | 0",
		"table caption b | b | 1",
		"dl dt b | dl | 3",
		"dl dd table tbody tr td dl | dd | 0",
		"dl dd table tbody tr td dl | dl | 1",
		"p textarea | p | 2",
		"p textarea | textarea | 1",
		"div | span | 0",
		" | b | 0")
}

// P16.2: any name may be ended: void ones, and any text, close nothing.
func TestEndAnyName(t *testing.T) {
	stacks := []string{"", "p b", "table colgroup", "table", "ul li", "h1 b", "table tbody tr td", "textarea"}
	for _, name := range append(strings.Fields(voids), odd...) {
		for _, line := range stacks {
			if n, e := nest.End(strings.Fields(line), name); n != 0 || e != api.OK {
				t.Errorf("End(%s, %q): %d, %d", line, name, n, e)
			}
		}
	}
}

// P16.2: stacks that are not right, whatever the name.
func TestEndErrors(t *testing.T) {
	for _, line := range []string{"script", "p br", "p div", "textarea b", "table tr", "table colgroup col"} {
		for _, name := range []string{"p", "br", "script", "", "table", "tr", "h1", "col"} {
			if n, e := nest.End(strings.Fields(line), name); n != 0 || e != api.ErrNestStack {
				t.Errorf("End(%s, %q): %d, %d", line, name, n, e)
			}
		}
	}
}
