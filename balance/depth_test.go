package balance_test

import (
	"slices"
	"strings"
	"testing"

	"sieve/balance"
)

// P17.2: a start tag's plan that reaches just the cap, and one that goes one beyond it: nothing is closed or put in then.
func TestStartAtCap(t *testing.T) {
	lines(t,
		"1 | +b | +b -b | ",
		"1 | +b +i | +b -b | 1:depth:i",
		"2 | +b +i | +b +i -i -b | ",
		"4 | +td | +table +tbody +tr +td -td -tr -tbody -table | 0:implied:table 0:implied:tbody 0:implied:tr",
		"3 | +td 'x | 'x | 0:depth:td",
		"2 | +li | +ul +li -li -ul | 0:implied:ul",
		"1 | +li | | 0:depth:li",
		// What is closed makes room.
		"1 | +p +p | +p -p +p -p | ",
		"2 | +p +b +div | +p +b -b -p +div -div | ",
		"1 | +textarea +textarea | +textarea -textarea +textarea -textarea | ",
		"3 | +ul +li +b +li | +ul +li +b -b -li +li -li -ul | ",
		// Both closing and putting in.
		"4 | +p +td | +p -p +table +tbody +tr +td -td -tr -tbody -table | 1:implied:table 1:implied:tbody 1:implied:tr",
		"3 | +p +td 'x | +p 'x -p | 1:depth:td",
		"5 | +table +colgroup +b | +table +colgroup -colgroup +tbody +tr +td +b -b -td -tr -tbody -table | 2:implied:tbody 2:implied:tr 2:implied:td",
		"4 | +table +colgroup +b +col | +table +colgroup =col -colgroup -table | 2:depth:b",
		"3 | +ul +li +ul +b | +ul +li +ul -ul -li -ul | 3:depth:b",
	)
}

// P17.2: likewise of a void one, which counts as one that is open, and is no ghost.
func TestVoidAtCap(t *testing.T) {
	lines(t,
		"1 | +br | =br | ",
		"1 | +b +br -br -b | +b -b | 1:depth:br 2:stray:br",
		"2 | +b +br -b | +b =br -b | ",
		"1 | +p +hr | +p -p =hr | ",
		"1 | +textarea +br | +textarea -textarea =br | ",
		"3 | +col | +table +colgroup =col -colgroup -table | 0:implied:table 0:implied:colgroup",
		"2 | +col | | 0:depth:col",
		"3 | +p +col | +p -p +table +colgroup =col -colgroup -table | 1:implied:table 1:implied:colgroup",
		"2 | +p +col 'x | +p 'x -p | 1:depth:col",
		"3 | +ul +br | +ul +li =br -li -ul | 1:implied:li",
		"2 | +ul +br | +ul -ul | 1:depth:br",
		"5 | +table +colgroup +br | +table +colgroup -colgroup +tbody +tr +td =br -td -tr -tbody -table | 2:implied:tbody 2:implied:tr 2:implied:td",
		"4 | +table +colgroup +br +col | +table +colgroup =col -colgroup -table | 2:depth:br",
	)
}

// P17.2: likewise of a text, which does not count itself.
func TestTextAtCap(t *testing.T) {
	lines(t,
		"1 | 'x +b 'y | 'x +b 'y -b | ",
		"2 | +ul 'x | +ul +li 'x -li -ul | 1:implied:li",
		"1 | +ul 'x | +ul -ul | 1:depth:",
		"1 | +ul '_ | +ul -ul | ",
		"1 | +dl 'x '_ 'y | +dl -dl | 1:depth: 3:depth:",
		"4 | +table 'x | +table +tbody +tr +td 'x -td -tr -tbody -table | 1:implied:tbody 1:implied:tr 1:implied:td",
		"3 | +table 'x '_ | +table -table | 1:depth:",
		"3 | +tr 'x | +table +tbody +tr -tr -tbody -table | 0:implied:table 0:implied:tbody 1:depth:",
		"4 | +table +colgroup 'x | +table +colgroup -colgroup +tbody +tr +td 'x -td -tr -tbody -table | 2:implied:tbody 2:implied:tr 2:implied:td",
		"3 | +table +colgroup 'x +col | +table +colgroup =col -colgroup -table | 2:depth:",
	)
}

// P17.2: ghosts: what is too deep is one, behind the others; its end tag ends it, and those behind it, and nothing else.
func TestGhosts(t *testing.T) {
	lines(t,
		"1 | +b +i 'x -i 'y -b | +b 'x 'y -b | 1:depth:i",
		"1 | +b +i +u +i -i -u -i -i | +b -b | 1:depth:i 2:depth:u 3:depth:i 7:stray:i",
		// An earlier one, with those behind it.
		"1 | +b +i +u +s -i -s -u -i | +b -b | 1:depth:i 2:depth:u 3:depth:s 5:stray:s 6:stray:u 7:stray:i",
		// One name twice: the last one.
		"1 | +b +i +u +i +s -i -u -i -i | +b -b | 1:depth:i 2:depth:u 3:depth:i 4:depth:s 8:stray:i",
		// The name of what is open, too: the ghost goes first.
		"1 | +b +b 'x -b 'y -b 'z | +b 'x 'y -b 'z | 1:depth:b",
		// Not among them: what is open is closed, and none is left.
		"2 | +b +i +u -b -u | +b +i -i -b | 2:depth:u 4:stray:u",
		"2 | +b +i +u -i -u | +b +i -i -b | 2:depth:u 4:stray:u",
		"2 | +b +i +u -s -u | +b +i -i -b | 2:depth:u 3:stray:s",
		// A heading's end tag ends a ghost of its own name alone.
		"1 | +h1 +h2 | +h1 -h1 +h2 -h2 | ",
		"2 | +td | | 0:depth:td",
		"2 | +b +i +h1 -h2 -h1 | +b +i -i -b | 2:depth:h1 3:stray:h2",
		"2 | +h1 +i +td -h2 -td | +h1 +i -i -h1 | 2:depth:td 4:stray:td",
		// Void elements are none, nor what may not be.
		"1 | +b +br +script -br -script | +b -b | 1:depth:br 2:element:script 3:stray:br 4:stray:script",
	)
}

// P17.2: none is left behind the closing of an element, by whatever it is closed; opening leaves them.
func TestGhostsEnd(t *testing.T) {
	for _, c := range []struct {
		depth                int
		lead, by             string
		open, ghosts, behind string
	}{
		{2, "+div +p +b +i", "+p", "div p", "b i", ""},
		{2, "+div +p +b +i", "+hr", "div", "b i", ""},
		{2, "+div +p +b +i", "-p", "div", "b i", ""},
		{2, "+div +p +b +i", "-div", "", "b i", ""},
		{2, "+div +p +b +i", "-b", "div p", "b i", ""},
		{2, "+div +p +b +i", "-i", "div p", "b i", "b"},
		{2, "+div +p +b +i", "-u", "div p", "b i", "b i"},
		{2, "+div +p +b +i", "'x", "div p", "b i", "b i"},
		{2, "+div +p +b +i", "'_", "div p", "b i", "b i"},
		{2, "+div +p +b +i", "!c", "div p", "b i", "b i"},
		{2, "+div +p +b +i", "!", "div p", "b i", "b i"},
		{2, "+div +p +b +i", "+script", "div p", "b i", "b i"},
		{2, "+div +p +b +i", "+br", "div p", "b i", "b i"},
		{2, "+div +p +b +i", "+b", "div p", "b i", "b i b"},
		{4, "+table +colgroup +ul +ol", "'x", "table tbody tr td", "ul ol", ""},
		{4, "+table +colgroup +ul +ol", "'_", "table colgroup", "ul ol", "ul ol"},
		{4, "+table +colgroup +ul +ol", "+col", "table colgroup", "ul ol", "ul ol"},
		{4, "+table +colgroup +ul +ol", "+td", "table tbody tr td", "ul ol", ""},
		{3, "+td +td", "+b", "b", "td td", "td td"},
		{3, "+td +td", "+ul", "ul", "td td", "td td"},
		{3, "+td +td", "+li", "ul li", "td td", "td td"},
		{3, "+td +td", "+br", "", "td td", "td td"},
		{3, "+td +td", "+col", "table colgroup", "td td", "td td"},
		{3, "+td +ul +td", "'x", "ul li", "td td", "td td"},
	} {
		b := made(t, c.depth)
		for _, x := range tokens(c.lead) {
			b.Take(x)
		}
		if got := strings.Join(b.Ghosts(), " "); got != c.ghosts {
			t.Errorf("%s: ghosts: %s; not %s", c.lead, got, c.ghosts)
		}
		b.Take(tokens(c.by)[0])
		stands(t, b, c.open, c.behind)
	}
}

// P17.3: Ghosts tells each name as often as it stands there, in the order in which they came.
func TestManyGhosts(t *testing.T) {
	b := made(t, 1)
	takes(t, b, start("b"), "+b", "")
	var want []string
	for n := range 1000 {
		name := strings.Fields("b i u s em td div")[n*n%7]
		takes(t, b, start(name), "", "0:depth:"+name)
		want = append(want, name)
	}
	stands(t, b, "b", strings.Join(want, " "))
	for len(want) > 0 {
		name := want[max(0, len(want)-3)]
		for at := len(want) - 1; ; at-- {
			if want[at] == name {
				want = want[:at]
				break
			}
		}
		takes(t, b, end(name), "", "")
		stands(t, b, "b", strings.Join(want, " "))
	}
	takes(t, b, end("td"), "", "0:stray:td")
	takes(t, b, end("b"), "-b", "")
}

// R1: many ghosts, and many end tags of what is none of them: no end tag goes through all of them.
func TestGhostsAreQuick(t *testing.T) {
	b := made(t, 1)
	takes(t, b, start("b"), "+b", "")
	const many = 300_000
	for range many {
		b.Take(start("i"))
	}
	for range many {
		if _, f, e := b.Take(end("u")); len(f) != 1 || e != 0 {
			t.Fatal(f, e)
		}
	}
	if n := len(b.Ghosts()); n != many {
		t.Errorf("%d ghosts", n)
	}
}

// P17.1, P17.3: the greatest cap, and one more: of All, with elements that are closed by each other, and what is put in.
func TestDeep(t *testing.T) {
	for _, name := range []string{"b", "div", "blockquote", "pre"} {
		l := tokens(strings.Repeat("+"+name+" ", 512) + "+i 'x -i 'y")
		want := strings.Repeat("+"+name+" ", 512) + "'x 'y" + strings.Repeat(" -"+name, 512)
		balances(t, 512, l, want, "512:depth:i")
	}
	round := strings.Repeat("+table +tbody +tr +td ", 128)
	back := slices.Repeat([]string{"-td -tr -tbody -table"}, 128)
	balances(t, 512, tokens(round+"'x +p"), round+"'x "+strings.Join(back, " "), "513:depth:p")
	if got := show(balance.All(513, tokens(round)...)); got != "\n\nerrno 1" {
		t.Error(got)
	}
}
