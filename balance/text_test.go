package balance_test

import (
	"strings"
	"testing"

	"sieve/api"
)

// P17.2: texts stand as they came; blank ones are dropped just where they would put something in.
func TestText(t *testing.T) {
	lines(t,
		"9 | 'x | 'x | ",
		"9 | '_ '~ '^ '% '~_x_~ | '_ '~ '^ '% '~_x_~ | ",
		"9 | +b '_ 'x '_ 'y -b '_ | +b '_ 'x '_ 'y -b '_ | ",
		"9 | +p '~^%_ -p '~^%_ | +p '~^%_ -p '~^%_ | ",
		"9 | +ul '~^%_ +li '~^%_ -li '~^%_ -ul | +ul +li '~^%_ -li -ul | ",
		"9 | +ul '_x | +ul +li '_x -li -ul | 1:implied:li",
		"9 | +ul '_ 'x '_ | +ul +li 'x '_ -li -ul | 2:implied:li",
		"9 | +dl '_ 'x | +dl +dd 'x -dd -dl | 2:implied:dd",
		"9 | +menu '_ 'x_ | +menu +li 'x_ -li -menu | 2:implied:li",
		"9 | +table '_ +caption '_ -caption '_ +colgroup '_ +col '_ +thead '_ +tr '_ +td '_ -table '_ | +table +caption '_ -caption +colgroup =col -colgroup +thead +tr +td '_ -td -tr -thead -table '_ | ",
		"9 | +table 'x | +table +tbody +tr +td 'x -td -tr -tbody -table | 1:implied:tbody 1:implied:tr 1:implied:td",
		"9 | +table +tfoot 'x | +table +tfoot +tr +td 'x -td -tr -tfoot -table | 2:implied:tr 2:implied:td",
		"9 | +table +colgroup '_ 'x | +table +colgroup -colgroup +tbody +tr +td 'x -td -tr -tbody -table | 3:implied:tbody 3:implied:tr 3:implied:td",
		"9 | +textarea 'x '_ '~ -textarea '~ | +textarea 'x '_ '~ -textarea '~ | ",
	)
}

// P17.2: blank is a text of tabs, line feeds, form feeds and spaces alone.
func TestBlank(t *testing.T) {
	for _, s := range []string{" ", "\t", "\n", "\f", " \t\n\f", "\n\n", strings.Repeat(" ", 5000)} {
		balances(t, 9, placed(start("ul"), text(s)), "+ul -ul", "")
	}
	for _, s := range []string{"x", "\r", "\v", "\x00", "\b", "\x0e", "\u0085", "\u00a0", "\u2028", "\u3000", "\ufeff", " \r", "\n\u00a0\n", strings.Repeat(" ", 5000) + "x", "x" + strings.Repeat(" ", 5000)} {
		want := line([]api.Event{{Kind: api.EventText, Text: s}})
		balances(t, 9, placed(start("ul"), text(s)), "+ul +li "+want+" -li -ul", "1:implied:li")
		balances(t, 9, placed(start("b"), text(s)), "+b "+want+" -b", "")
	}
}

// P17.2, P17.5: line feeds behind the opening of a pre and of a textarea go, in one text and in several.
func TestFresh(t *testing.T) {
	for _, name := range []string{"pre", "textarea"} {
		for _, l := range []string{
			"9 | +N '~ | +N -N | ",
			"9 | +N '~~~ | +N -N | ",
			"9 | +N '~ '~ '~~ | +N -N | ",
			"9 | +N '~x | +N 'x -N | ",
			"9 | +N '~~x~~y~ | +N 'x~~y~ -N | ",
			"9 | +N '~ '~~x '~y | +N 'x '~y -N | ",
			"9 | +N 'x '~y '~ '~ | +N 'x '~y '~ '~ -N | ",
			"9 | +N '~_~ '~x | +N '_~ '~x -N | ",
			"9 | +N '_ '~x | +N '_ '~x -N | ",
			"9 | +N '^~ '~x | +N '^~ '~x -N | ",
			"9 | +N '~ -N '~x | +N -N '~x | ",
			"9 | +N -N '~x | +N -N '~x | ",
			"9 | +N '~x -N +N '~y -N '~z | +N 'x -N +N 'y -N '~z | ",
			// What tells no event does not end it.
			"9 | +N !c '~ ! '~x | +N 'x -N | ",
			"9 | +N +script '~ -i '~x -script '~x | +N 'x '~x -N | 1:element:script 3:stray:i 5:stray:script",
			"9 | +N -i '~x | +N 'x -N | 1:stray:i",
		} {
			lines(t, strings.ReplaceAll(l, "N", name))
		}
		balances(t, 9, placed(start(name, attr("class", "x")), text("\n\nx")), `+`+name+`[class="x"] 'x -`+name, "")
		balances(t, 9, placed(self(name), text("\nx")), "+"+name+" 'x -"+name, "")
		balances(t, 9, placed(start(name), text("\r\nx"), text("\ny")), "+"+name+" '\r~x '~y -"+name, "")
		balances(t, 9, placed(start(name), text("\n\u2028\n"), text("\ny")), "+"+name+" '\u2028~ '~y -"+name, "")
		balances(t, 9, placed(start(name), text(strings.Repeat("\n", 5000)+"x")), "+"+name+" 'x -"+name, "")
	}
	lines(t,
		// Something else stands behind the opening.
		"9 | +pre +b '~x | +pre +b '~x -b -pre | ",
		"9 | +pre '~ +b '~ -b '~x | +pre +b '~ -b '~x -pre | ",
		"9 | +pre +b -b '~x | +pre +b -b '~x -pre | ",
		"9 | +pre +br '~x | +pre =br '~x -pre | ",
		"9 | +pre '~ +br '~ | +pre =br '~ -pre | ",
		"9 | +pre +ul '~ 'x | +pre +ul +li 'x -li -ul -pre | 3:implied:li",
		"9 | +textarea '~ +b '~x | +textarea -textarea +b '~x -b | ",
		"9 | +textarea +br '~x | +textarea -textarea =br '~x | ",
		// One in the other, and one behind the other.
		"9 | +pre +pre '~x -pre '~y | +pre +pre 'x -pre '~y -pre | ",
		"9 | +pre '~ +textarea '~x -textarea '~y | +pre +textarea 'x -textarea '~y -pre | ",
		"9 | +textarea 'x +textarea '~y | +textarea 'x -textarea +textarea 'y -textarea | ",
		"9 | +textarea 'x +pre '~y | +textarea 'x -textarea +pre 'y -pre | ",
		"9 | +p '~x +pre '~y | +p '~x -p +pre 'y -pre | ",
		// No other element has it.
		"9 | +p '~x | +p '~x -p | ",
		"9 | +code '~x | +code '~x -code | ",
		"9 | '~x | '~x | ",
	)
}

// P17.2: at the cap, a pre stays fresh where what is too deep comes, and is not fresh where it is too deep itself.
func TestFreshAtCap(t *testing.T) {
	lines(t,
		"1 | +pre +b '~ -b '~x | +pre 'x -pre | 1:depth:b",
		"1 | +pre +br '~x | +pre 'x -pre | 1:depth:br",
		"1 | +pre +td '~x | +pre 'x -pre | 1:depth:td",
		"1 | +pre +pre '~x '~y | +pre 'x '~y -pre | 1:depth:pre",
		"1 | +b +pre '~x | +b '~x -b | 1:depth:pre",
		"1 | +b +textarea '~x -textarea '~y | +b '~x '~y -b | 1:depth:textarea",
		"2 | +b +textarea '~x -textarea '~y | +b +textarea 'x -textarea '~y -b | ",
	)
}
