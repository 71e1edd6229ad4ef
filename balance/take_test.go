package balance_test

import (
	"strings"
	"testing"

	"sieve/api"
	"sieve/balance"
	"sieve/nest"
)

// made: a balancer of a depth that may be.
func made(t *testing.T, depth int) *balance.Balancer {
	t.Helper()
	b, e := balance.New(depth)
	if b == nil || e != api.OK {
		t.Fatalf("New(%d): %v, %d", depth, b, e)
	}
	return b
}

// takes: what a balancer must answer of a token, which gets the place of the first one.
func takes(t *testing.T, b *balance.Balancer, x api.Token, events, found string) {
	t.Helper()
	x.At = place(0)
	if got, want := show(b.Take(x)), events+"\n"+found+"\nerrno 0"; got != want {
		t.Errorf("%+v:\n%s\nnot\n%s", x, got, want)
	}
}

// stands: what is open, and which ghosts there are.
func stands(t *testing.T, b *balance.Balancer, open, ghosts string) {
	t.Helper()
	if got := strings.Join(b.Open(), " "); got != strings.TrimSpace(open) {
		t.Errorf("open: %s; not %s", got, open)
	}
	if got := strings.Join(b.Ghosts(), " "); got != strings.TrimSpace(ghosts) {
		t.Errorf("ghosts: %s; not %s", got, ghosts)
	}
}

// balances: the events and findings of tokens to the end, all at once and one by one.
func balances(t *testing.T, depth int, l []api.Token, events, found string) {
	t.Helper()
	want := events + "\n" + found + "\nerrno 0"
	if got := show(balance.All(depth, l...)); got != want {
		t.Errorf("%d, %+v:\n%s\nnot\n%s", depth, l, got, want)
	}
	b := made(t, depth)
	var told []api.Event
	var of []api.Finding
	for _, x := range l {
		some, f, e := b.Take(x)
		if e != api.OK {
			t.Errorf("%+v: %d", x, e)
		}
		told, of = append(told, some...), append(of, f...)
		open, ok := opened(told)
		if got := strings.Join(b.Open(), " "); !ok || got != strings.Join(open, " ") || !nest.Right(open...) || len(open) > depth {
			t.Errorf("%d, %+v: open behind %+v: %s", depth, l, x, got)
		}
	}
	some, e := b.End()
	if got := show(append(told, some...), of, e); got != want {
		t.Errorf("%d, one by one, %+v:\n%s\nnot\n%s", depth, l, got, want)
	}
}

// lines holds lines such as "9 | +p -i | +p -p | 1:stray:i" (a cap, tokens, events, findings) against a balancer.
func lines(t *testing.T, l ...string) {
	t.Helper()
	for _, s := range l {
		part := strings.Split(s, "|")
		depth := 0
		for _, digit := range strings.TrimSpace(part[0]) {
			depth = 10*depth + int(digit-'0')
		}
		balances(t, depth, tokens(part[1]), strings.TrimSpace(part[2]), strings.TrimSpace(part[3]))
	}
}

// The chapter's examples.
func TestExamples(t *testing.T) {
	lines(t,
		"9 | +b 'x +i -b | +b 'x +i -i -b | ",
		"9 | +p +div | +p -p +div -div | ",
		"9 | -p | | 0:stray:p",
		"2 | +div +b +i 'x -i -b | +div +b 'x -b -div | 2:depth:i",
		"1 | +td | | 0:depth:td",
		"9 | +li | +ul +li -li -ul | 0:implied:ul",
		"9 | +pre '~~ '~x | +pre 'x -pre | ",
	)
}

// P17.2: comments and doctypes: nothing, wherever they come, and nothing changes.
func TestComment(t *testing.T) {
	lines(t,
		"9 | !c ! | | ",
		"9 | +b !b ! 'x !- -b ! | +b 'x -b | ",
		"9 | +table !c ! +tr | +table +tbody +tr -tr -tbody -table | 3:implied:tbody",
		"9 | +pre !c ! '~ !c ! '~x | +pre 'x -pre | ",
		"9 | +textarea ! !c '~x ! | +textarea 'x -textarea | ",
		"1 | +b +i !c ! -i 'x | +b 'x -b | 1:depth:i",
		"9 | 'x !c ! 'y | 'x 'y | ",
	)
	b := made(t, 9)
	for _, s := range append([]string{"", "b", "-->", "<b>"}, someTexts...) {
		takes(t, b, comment(s), "", "")
	}
	takes(t, b, doctype(), "", "")
	stands(t, b, "", "")
}

// P17.2: a start tag that is not in SetAllow: nothing but the finding, wherever it comes, at the cap too.
func TestBarred(t *testing.T) {
	for _, name := range strings.Fields(barred) {
		for _, lead := range []string{"", "+b", "+table", "+ul", "+p +b", "+textarea"} {
			b := made(t, len(strings.Fields(lead))+1)
			for _, x := range tokens(lead) {
				b.Take(x)
			}
			open := strings.ReplaceAll(lead, "+", "")
			for _, x := range []api.Token{start(name), self(name), start(name, attr("x", "y"))} {
				takes(t, b, x, "", "0:element:"+name)
				stands(t, b, open, "")
			}
			takes(t, b, end(name), "", "0:stray:"+name)
			stands(t, b, open, "")
		}
		lines(t,
			"1 | +b +"+name+" 'x -"+name+" | +b 'x -b | 1:element:"+name+" 3:stray:"+name,
			"9 | +pre +"+name+" '~x | +pre 'x -pre | 1:element:"+name)
	}
}

// P17.2: every name of SetAllow, alone: it is opened, or stands if it is void, behind what must stand around it.
func TestEveryName(t *testing.T) {
	around := map[string]string{"li": "ul", "dt": "dl", "dd": "dl", "caption": "table", "colgroup": "table", "thead": "table", "tbody": "table", "tfoot": "table", "col": "table colgroup", "tr": "table tbody", "td": "table tbody tr", "th": "table tbody tr"}
	for _, name := range strings.Fields(allowed) {
		events, found, ends := "", "", ""
		for _, out := range strings.Fields(around[name]) {
			events += "+" + out + " "
			ends = " -" + out + ends
			found += " 0:implied:" + out
		}
		if among(voids, name) {
			events += "=" + name + ends
		} else {
			events += "+" + name + " -" + name + ends
		}
		lines(t, "4 | +"+name+" | "+events+" | "+found)
	}
}

// P17.2: a void element stands, and nothing is in it.
func TestVoid(t *testing.T) {
	lines(t,
		"9 | +br 'x | =br 'x | ",
		"9 | +p +br -br 'x -p | +p =br 'x -p | 2:stray:br",
		"9 | +br +br +wbr +img | =br =br =wbr =img | ",
		"9 | +p +hr | +p -p =hr | ",
		"9 | +ul +br | +ul +li =br -li -ul | 1:implied:li",
		"9 | +col +col | +table +colgroup =col =col -colgroup -table | 0:implied:table 0:implied:colgroup",
		"9 | +p +col | +p -p +table +colgroup =col -colgroup -table | 1:implied:table 1:implied:colgroup",
		"9 | +textarea +br | +textarea -textarea =br | ",
		"9 | +table +colgroup +br | +table +colgroup -colgroup +tbody +tr +td =br -td -tr -tbody -table | 2:implied:tbody 2:implied:tr 2:implied:td",
	)
}

// P17.2: start tags that close something, that put something in, and both: first is closed, from the top, then put in.
func TestPlans(t *testing.T) {
	lines(t,
		"9 | +p +b +i +div | +p +b +i -i -b -p +div -div | ",
		"9 | +a +b +a | +a +b -b -a +a -a | ",
		"9 | +h1 +i +h3 | +h1 +i -i -h1 +h3 -h3 | ",
		"9 | +ul +li +b +li | +ul +li +b -b -li +li -li -ul | ",
		"9 | +dl +dt +dd | +dl +dt -dt +dd -dd -dl | ",
		"9 | +textarea +b | +textarea -textarea +b -b | ",
		"9 | +textarea +textarea | +textarea -textarea +textarea -textarea | ",
		"9 | +ul +b | +ul +li +b -b -li -ul | 1:implied:li",
		"9 | +dl +i | +dl +dd +i -i -dd -dl | 1:implied:dd",
		"9 | +table +b | +table +tbody +tr +td +b -b -td -tr -tbody -table | 1:implied:tbody 1:implied:tr 1:implied:td",
		"9 | +tr +ul | +table +tbody +tr +td +ul -ul -td -tr -tbody -table | 0:implied:table 0:implied:tbody 1:implied:td",
		"9 | +p +td | +p -p +table +tbody +tr +td -td -tr -tbody -table | 1:implied:table 1:implied:tbody 1:implied:tr",
		"9 | +table +colgroup +b | +table +colgroup -colgroup +tbody +tr +td +b -b -td -tr -tbody -table | 2:implied:tbody 2:implied:tr 2:implied:td",
		"9 | +td 'x +tr 'y | +table +tbody +tr +td 'x -td -tr +tr +td 'y -td -tr -tbody -table | 0:implied:table 0:implied:tbody 0:implied:tr 3:implied:td",
		"9 | +table +table | +table +tbody +tr +td +table -table -td -tr -tbody -table | 1:implied:tbody 1:implied:tr 1:implied:td",
	)
}

// P17.2: attributes are the element's own, as they came and in their order; what is put in has none.
func TestAttrs(t *testing.T) {
	a, b := attr("href", "x\n\"y\""), attr("=", "")
	const told = `[href="x\n\"y\""][==""]`
	balances(t, 9, placed(start("b", a, b)), "+b"+told+" -b", "")
	balances(t, 9, placed(self("b", a, b), text("x")), "+b"+told+" 'x -b", "")
	balances(t, 9, placed(start("br", a, b), self("br"), self("br", b, a)), `=br`+told+` =br =br[==""][href="x\n\"y\""]`, "")
	balances(t, 9, placed(start("p", b), start("td", a, b)), `+p[==""] -p +table +tbody +tr +td`+told+` -td -tr -tbody -table`, "1:implied:table 1:implied:tbody 1:implied:tr")
	balances(t, 9, placed(start("ul", b), start("br", a, b)), `+ul[==""] +li =br`+told+` -li -ul`, "1:implied:li")
	balances(t, 1, placed(start("i", a), start("b", a, b), end("b"), start("br", a)), `+i[href="x\n\"y\""] -i`, "1:depth:b 3:depth:br")
	balances(t, 1, placed(start("script", a, b)), "", "0:element:script")
}

// P17.2: end tags: they close one, several, nothing.
func TestEnd(t *testing.T) {
	lines(t,
		"9 | +b -b | +b -b | ",
		"9 | +div +b +i 'x -div 'y | +div +b +i 'x -i -b -div 'y | ",
		"9 | +b +i -b -i | +b +i -i -b | 3:stray:i",
		"9 | +b +b -b 'x | +b +b -b 'x -b | ",
		"9 | -b -td -p -script -x -br | | 0:stray:b 1:stray:td 2:stray:p 3:stray:script 4:stray:x 5:stray:br",
		"9 | +b -i 'x | +b 'x -b | 1:stray:i",
		"9 | +h1 +b -h3 'x | +h1 +b -b -h1 'x | ",
		"9 | +h2 -h2 -h2 | +h2 -h2 | 2:stray:h2",
		"9 | -h1 | | 0:stray:h1",
		"9 | +td +h1 +td -h1 | +table +tbody +tr +td +h1 -h1 -td +td -td -tr -tbody -table | 0:implied:table 0:implied:tbody 0:implied:tr 3:stray:h1",
		"9 | +b +td 'x -b | +b +table +tbody +tr +td 'x -td -tr -tbody -table -b | 1:implied:table 1:implied:tbody 1:implied:tr 3:stray:b",
		"9 | +td 'x -table 'y | +table +tbody +tr +td 'x -td -tr -tbody -table 'y | 0:implied:table 0:implied:tbody 0:implied:tr",
		"9 | +td 'x -tr | +table +tbody +tr +td 'x -td -tr -tbody -table | 0:implied:table 0:implied:tbody 0:implied:tr",
		"9 | +table -td | +table -table | 1:stray:td",
		"9 | +ul 'x -li -li -ul | +ul +li 'x -li -ul | 1:implied:li 3:stray:li",
		"9 | +textarea 'x -b -textarea -textarea | +textarea 'x -textarea | 2:stray:b 4:stray:textarea",
	)
	for _, name := range strings.Fields(voids) {
		lines(t, "9 | -"+name+" | | 0:stray:"+name)
		switch {
		case !among(allowed, name):
			lines(t, "9 | +b +"+name+" -"+name+" -b | +b -b | 1:element:"+name+" 2:stray:"+name)
		case name == "col": // it stands behind a table, which is a wall
			lines(t, "9 | +b +col -col -b | +b +table +colgroup =col -colgroup -table -b | 1:implied:table 1:implied:colgroup 2:stray:col 3:stray:b")
		default:
			lines(t, "9 | +b +"+name+" -"+name+" -b | +b ="+name+" -b | 2:stray:"+name)
		}
	}
}

// P17.3: at the end all is closed, from the top.
func TestFinish(t *testing.T) {
	lines(t,
		"9 | +b +i 'x | +b +i 'x -i -b | ",
		"9 | +ul +li +div +p | +ul +li +div +p -p -div -li -ul | ",
		"9 | +table | +table -table | ",
		"9 | +textarea | +textarea -textarea | ",
		"9 | +pre '~ | +pre -pre | ",
		"9 | 'x | 'x | ",
		"2 | +b +i +u +s | +b +i -i -b | 2:depth:u 3:depth:s",
	)
}

// R2, P17.2: a token that may not be: nothing changes, in whichever state the balancer is.
func TestWrongTokens(t *testing.T) {
	for _, lead := range []string{"", "+b", "+pre", "+textarea '~", "+table +colgroup", "+b +i +u", "+ul", "+td 'x"} {
		b := made(t, 4)
		for _, x := range tokens(lead) {
			b.Take(x)
		}
		open, ghosts := strings.Join(b.Open(), " "), strings.Join(b.Ghosts(), " ")
		for _, x := range impossible() {
			x.At = place(3)
			if got := show(b.Take(x)); got != "\n\nerrno 70" {
				t.Errorf("%s, %+v: %s", lead, x, got)
			}
			stands(t, b, open, ghosts)
		}
		m := &model{depth: 4}
		for _, x := range tokens(lead) {
			m.take(x)
		}
		if got, want := show(b.Take(text("\nx"))), show(m.take(text("\nx"))); got != want {
			t.Errorf("%s: %s; not %s", lead, got, want)
		}
	}
}
