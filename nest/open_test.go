package nest_test

import (
	"strings"
	"testing"

	"sieve/api"
	"sieve/nest"
)

// opens holds lines such as "p b | div | 2 | ul" (a stack, a name, how many are closed, what is put in) against Open.
func opens(t *testing.T, lines ...string) {
	t.Helper()
	for _, line := range lines {
		part := strings.Split(line, "|")
		stack, name := strings.Fields(part[0]), strings.TrimSpace(part[1])
		want := api.Plan{Close: number(part[2]), Insert: strings.Fields(part[3])}
		p, e := nest.Open(stack, name)
		if showPlan(p) != showPlan(want) || e != api.OK {
			t.Errorf("%s: %s, %d", line, showPlan(p), e)
		}
		nothing := want.Close == 0 && len(want.Insert) == 0
		if ok, e := nest.May(stack, name); ok != nothing || e != api.OK {
			t.Errorf("May, %s: %v, %d", line, ok, e)
		}
	}
}

// number: a digit.
func number(s string) int { return int(strings.TrimSpace(s)[0] - '0') }

// P16.2: the chapter's examples.
func TestOpenExamples(t *testing.T) {
	opens(t,
		"p b | div | 2 | ",
		"b table tbody tr td | div | 0 | ",
		"ul li b | li | 2 | ",
		" | li | 0 | ul",
		"p | td | 1 | table tbody tr",
		"table | b | 0 | tbody tr td",
		"table colgroup | b | 1 | tbody tr td",
		"ul | ul | 0 | li",
		"a b | a | 2 | ",
		"a table tbody tr td | a | 0 | ")
}

// P16.2: which of the two errors is told: the stack's goes ahead.
func TestOpenErrors(t *testing.T) {
	for _, c := range []struct {
		stack, name string
		want        api.Errno
	}{
		{"", "script", api.ErrNestName},
		{"div", "", api.ErrNestName},
		{"div", "P", api.ErrNestName},
		{"div", "area", api.ErrNestName},
		{"div", "form", api.ErrNestName},
		{"textarea", "title", api.ErrNestName},
		{"table tr", "td", api.ErrNestStack},
		{"script", "b", api.ErrNestStack},
		{"br", "b", api.ErrNestStack},
		{"textarea b", "b", api.ErrNestStack},
		{"table tr", "script", api.ErrNestStack},
		{"script", "script", api.ErrNestStack},
		{"p br", "", api.ErrNestStack},
	} {
		if p, e := nest.Open(strings.Fields(c.stack), c.name); e != c.want || showPlan(p) != showPlan(api.Plan{}) {
			t.Errorf("Open(%s, %q): %s, %d", c.stack, c.name, showPlan(p), e)
		}
		if ok, e := nest.May(strings.Fields(c.stack), c.name); e != c.want || ok {
			t.Errorf("May(%s, %q): %v, %d", c.stack, c.name, ok, e)
		}
	}
}

// P16.2, step 1: a top that is textarea is closed, and then the next steps go on.
func TestOpenTextarea(t *testing.T) {
	opens(t,
		"textarea | b | 1 | ",
		"textarea | textarea | 1 | ",
		"textarea | br | 1 | ",
		"b textarea | li | 1 | ul",
		"p b textarea | div | 3 | ",
		"p textarea | td | 2 | table tbody tr",
		"a textarea | a | 2 | ",
		"h2 textarea | h3 | 2 | ",
		"ul li textarea | li | 2 | ",
		"table tbody tr td textarea | b | 1 | ",
		"table tbody tr td textarea | tr | 3 | ",
		"dl dd textarea | dt | 2 | ")
}

// P16.2, step 2: an a closes one above the topmost cell; a table is no wall to it.
func TestOpenA(t *testing.T) {
	opens(t,
		"a | a | 1 | ",
		"div a b i | a | 3 | ",
		"a div | a | 2 | ",
		"a table | a | 2 | ",
		"a table tbody | a | 3 | ",
		"a ul | a | 2 | ",
		"a table tbody tr td | a | 0 | ",
		"a table tbody tr th b | a | 0 | ",
		"a table caption | a | 0 | ",
		"a table tbody tr td a b | a | 2 | ",
		"a table tbody tr td table | a | 0 | tbody tr td",
		"a table tbody tr td a table tbody | a | 3 | ",
		"b table | a | 0 | tbody tr td",
		"ul | a | 0 | li",
		"p | a | 0 | ",
		"p b | a | 0 | ")
}

// P16.2, step 2: a heading closes one above the topmost wall, whichever it is; and a p, like other blocks.
func TestOpenHeading(t *testing.T) {
	opens(t,
		"h1 | h1 | 1 | ",
		"h1 i | h6 | 2 | ",
		"div h3 div | h2 | 2 | ",
		"h1 p | h2 | 2 | ",
		"p b | h4 | 2 | ",
		"h1 ul li | h2 | 3 | ",
		"h1 ul | h2 | 2 | ",
		"h1 table | h2 | 0 | tbody tr td",
		"h1 table tbody | h2 | 0 | tr td",
		"h1 table tbody tr td | h2 | 0 | ",
		"h1 table caption b | h2 | 0 | ",
		"h1 table tbody tr td h2 b | h3 | 2 | ",
		"h1 table tbody tr td p | h3 | 1 | ",
		"h1 | p | 0 | ",
		"h1 | b | 0 | ",
		"dl | h1 | 0 | dd")
}

// P16.2, step 2: a block closes a p above the topmost wall; others do not.
func TestOpenBlock(t *testing.T) {
	opens(t,
		"p | p | 1 | ",
		"div p b i | table | 3 | ",
		"p | hr | 1 | ",
		"p b | pre | 2 | ",
		"p | ul | 1 | ",
		"p | li | 1 | ul",
		"p b | dt | 2 | dl",
		"p | span | 0 | ",
		"p | br | 0 | ",
		"p | textarea | 0 | ",
		"div p | center | 1 | ",
		"div | div | 0 | ",
		"div | p | 0 | ",
		"table tbody tr td p b | div | 2 | ",
		"table tbody tr td | div | 0 | ",
		"table caption p | p | 1 | ",
		"div p span b | hr | 3 | ",
		"table | hr | 0 | tbody tr td")
}

// P16.2, step 3: li, with a list above the topmost wall, below it, and with none.
func TestOpenLi(t *testing.T) {
	opens(t,
		"ul | li | 0 | ",
		"ol li | li | 1 | ",
		"menu li div b | li | 3 | ",
		"ul li p | li | 2 | ",
		"ul li ol li b | li | 2 | ",
		"ul li dl dt | li | 3 | ",
		"ul li table | li | 0 | tbody tr td ul",
		"ul li table tbody tr td | li | 0 | ul",
		"ul li table caption b | li | 0 | ul",
		"ul li table tbody tr td ol li | li | 1 | ",
		"div | li | 0 | ul",
		"b | li | 0 | ul",
		"dl | li | 0 | dd ul",
		"dl dd | li | 0 | ul",
		"table | li | 0 | tbody tr td ul",
		"table thead | li | 0 | tr td ul",
		"table tbody tr | li | 0 | td ul",
		"table colgroup | li | 1 | tbody tr td ul",
		"a b | li | 0 | ul")
}

// P16.2, step 3: dt and dd, with a dl above the topmost wall, below it, and with none.
func TestOpenDtDd(t *testing.T) {
	for _, name := range []string{"dt", "dd"} {
		for _, line := range []string{
			"dl | # | 0 | ",
			"dl dt | # | 1 | ",
			"dl dd div b | # | 3 | ",
			"dl dd p b | # | 3 | ",
			"dl dd dl dt | # | 1 | ",
			"dl dd ul li | # | 3 | ",
			"dl dd ul | # | 2 | ",
			"dl dd table | # | 0 | tbody tr td dl",
			"dl dd table tbody tr th | # | 0 | dl",
			"dl dd table caption dl dd | # | 1 | ",
			" | # | 0 | dl",
			"p b | # | 2 | dl",
			"ul | # | 0 | li dl",
			"menu li | # | 0 | dl",
			"table | # | 0 | tbody tr td dl",
			"table tfoot | # | 0 | tr td dl",
			"table tbody tr | # | 0 | td dl",
			"table colgroup | # | 1 | tbody tr td dl",
		} {
			opens(t, strings.Replace(line, "#", name, 1))
		}
	}
}

// P16.2, step 3: caption, colgroup and the groups, on the topmost table, or on one that is put in.
func TestOpenParts(t *testing.T) {
	for _, name := range []string{"caption", "colgroup", "thead", "tbody", "tfoot"} {
		for _, line := range []string{
			"table | # | 0 | ",
			"table colgroup | # | 1 | ",
			"table tbody | # | 1 | ",
			"table thead tr | # | 2 | ",
			"table caption p b | # | 3 | ",
			"div table tbody tr td ul li | # | 5 | ",
			"table tbody tr td table tfoot tr | # | 2 | ",
			" | # | 0 | table",
			"div b | # | 0 | table",
			"p | # | 1 | table",
			"div p b | # | 2 | table",
			"ul | # | 0 | li table",
			"ul li p | # | 1 | table",
			"dl | # | 0 | dd table",
			"h1 a | # | 0 | table",
			"textarea | # | 1 | table",
		} {
			opens(t, strings.Replace(line, "#", name, 1))
		}
	}
}

// P16.2, step 3: col, on the topmost colgroup, if that stands above the topmost table; else on one that is put in.
func TestOpenCol(t *testing.T) {
	opens(t,
		"table colgroup | col | 0 | ",
		"table | col | 0 | colgroup",
		"table tbody | col | 1 | colgroup",
		"table tbody tr td b | col | 4 | colgroup",
		"table caption | col | 1 | colgroup",
		"table tbody tr td table | col | 0 | colgroup",
		"table tbody tr td table colgroup | col | 0 | ",
		" | col | 0 | table colgroup",
		"b | col | 0 | table colgroup",
		"p b | col | 2 | table colgroup",
		"ul | col | 0 | li table colgroup",
		"dl | col | 0 | dd table colgroup",
		"p textarea | col | 2 | table colgroup")
}

// P16.2, step 3: tr, on the topmost one of groups and tables.
func TestOpenTr(t *testing.T) {
	opens(t,
		"table thead | tr | 0 | ",
		"table tbody | tr | 0 | ",
		"table tfoot tr | tr | 1 | ",
		"table tbody tr td b | tr | 3 | ",
		"table | tr | 0 | tbody",
		"table colgroup | tr | 1 | tbody",
		"table caption p | tr | 2 | tbody",
		"table tbody tr td table | tr | 0 | tbody",
		"table tbody tr td table tbody tr th | tr | 2 | ",
		" | tr | 0 | table tbody",
		"div | tr | 0 | table tbody",
		"p i | tr | 2 | table tbody",
		"ol | tr | 0 | li table tbody",
		"dl | tr | 0 | dd table tbody")
}

// P16.2, step 3: td and th, on the topmost one of tr, groups and tables.
func TestOpenCells(t *testing.T) {
	for _, name := range []string{"td", "th"} {
		for _, line := range []string{
			"table tbody tr | # | 0 | ",
			"table tbody tr td | # | 1 | ",
			"table tbody tr th p b | # | 3 | ",
			"table thead | # | 0 | tr",
			"table tbody | # | 0 | tr",
			"table tfoot | # | 0 | tr",
			"table | # | 0 | tbody tr",
			"table colgroup | # | 1 | tbody tr",
			"table caption b | # | 2 | tbody tr",
			"table tbody tr td table | # | 0 | tbody tr",
			"table tbody tr td table colgroup | # | 1 | tbody tr",
			"table tbody tr td table thead | # | 0 | tr",
			" | # | 0 | table tbody tr",
			"b i | # | 0 | table tbody tr",
			"div p b | # | 2 | table tbody tr",
			"ul | # | 0 | li table tbody tr",
			"dl | # | 0 | dd table tbody tr",
			"p textarea | # | 2 | table tbody tr",
		} {
			opens(t, strings.Replace(line, "#", name, 1))
		}
	}
}

// P16.2, step 4: what is put in between the top and all others.
func TestOpenOthers(t *testing.T) {
	for _, name := range []string{"b", "div", "table", "ul", "dl", "textarea", "br", "img", "p", "a", "h1", "pre"} {
		for _, line := range []string{
			"table colgroup | # | 1 | tbody tr td",
			"table | # | 0 | tbody tr td",
			"table thead | # | 0 | tr td",
			"table tbody | # | 0 | tr td",
			"table tfoot | # | 0 | tr td",
			"table tbody tr | # | 0 | td",
			"ul | # | 0 | li",
			"ol | # | 0 | li",
			"menu | # | 0 | li",
			"dl | # | 0 | dd",
			"table tbody tr td | # | 0 | ",
			"table tbody tr th | # | 0 | ",
			"table caption | # | 0 | ",
			"ul li | # | 0 | ",
			"dl dt | # | 0 | ",
			"dl dd | # | 0 | ",
			" | # | 0 | ",
		} {
			opens(t, strings.Replace(line, "#", name, 1))
		}
	}
}
