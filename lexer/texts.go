package lexer

import (
	"slices"
	"strings"
	"unicode/utf8"

	"sieve/api"
	"sieve/charref"
	"sieve/input"
)

const (
	// longName is more runes than a & and a name have.
	longName = 32
	// longNumber is more runes than a number that is no code point has, with its &#x, if no nought stands at its front.
	longNumber = 12
)

// texts gathers runes to texts, and keeps the tokens that are sure till they are taken.
type texts struct {
	window int
	runes  []byte // of the text, as UTF-8
	count  int    // of these runes
	from   api.Place
	ref    []api.Cell // from a & on: it is not known yet what it is
	sure   []api.Token
}

// tell: a token is sure.
func (t *texts) tell(one api.Token) { t.sure = append(t.sure, one) }

// take: the tokens that are sure and have not been taken.
func (t *texts) take() []api.Token {
	out := t.sure
	t.sure = nil
	return out
}

// say: a rune more of a text, which came from a place.
func (t *texts) say(r rune, from api.Place) {
	if t.count == 0 {
		t.from = from
	}
	t.runes = utf8.AppendRune(t.runes, r)
	t.count++
	if t.count == t.window {
		t.flush()
	}
}

// flush: the text ends here.
func (t *texts) flush() {
	if t.count == 0 {
		return
	}
	t.tell(api.Token{Kind: api.TokenText, Text: string(t.runes), At: t.from})
	t.runes, t.count = t.runes[:0], 0
}

// add: a cell more of a text that has references.
func (t *texts) add(c api.Cell) {
	if len(t.ref) == 0 && c.Rune != '&' {
		t.say(c.Rune, c.At)
		return
	}
	t.ref = append(t.ref, c)
	if !t.waits() {
		t.settle(false)
	}
}

// waits: need it not be known yet what the reference is? Each asking for a name goes through all of them; while
// letters come, nothing hangs on the answer, unless the text may become full by it.
func (t *texts) waits() bool {
	size := len(t.ref)
	return letter(t.ref[size-1].Rune) && size < longName && size < t.window-t.count
}

// settle: what is sure of the reference becomes text; last: no cell goes on with it.
func (t *texts) settle(last bool) {
	if len(t.ref) == 0 {
		return
	}
	cells := t.ref
	says, size, sure := charref.Next(text(cells[1:]), false, last)
	if !sure {
		t.shorten()
		return
	}
	if size == 0 {
		says = "&"
	}
	for _, r := range says {
		t.say(input.Plain(r), cells[0].At)
	}
	t.ref = nil
	for _, c := range cells[1+size:] { // a & may be the last of them
		t.add(c)
	}
}

// shorten leaves a digit out of a number that has more of them than it needs: however many come, few are kept. A
// nought at the front says nothing; without one the number is no code point, with its last digit and without it.
func (t *texts) shorten() {
	if len(t.ref) < longNumber || t.ref[1].Rune != '#' {
		return
	}
	first := len("&#")
	if r := t.ref[first].Rune; r == 'x' || r == 'X' {
		first++
	}
	if t.ref[first].Rune == '0' {
		t.ref = slices.Delete(t.ref, first, first+1)
	} else {
		t.ref = t.ref[:len(t.ref)-1]
	}
}

// text: the runes of cells.
func text(cells []api.Cell) string {
	var out strings.Builder
	for _, c := range cells {
		out.WriteRune(c.Rune)
	}
	return out.String()
}
