package lexer_test

import (
	"slices"
	"strconv"
	"strings"
	"testing"
	"unicode/utf8"

	"sieve/api"
	"sieve/charref"
	"sieve/input"
	"sieve/lexer"
	"sieve/markup"
	"sieve/names"
	"sieve/raw"
	"sieve/tag"
	"sieve/token"
)

// moment is where a lexer stands behind some cells.
type moment struct {
	told  []api.Token // by Feed
	left  []api.Token // by End, if it comes now
	stop  []api.Token // by Stop, if it comes now
	lost  []api.Finding
	where api.Where
}

// reader reads cells at once, with what the layers below tell of whole texts.
type reader struct {
	moment
	cells  []api.Cell
	window int
	runes  []rune      // of the text that has not ended
	places []api.Place // that they came from
}

// model: where a lexer with a window stands behind cells, by the chapter's words.
func model(cells []api.Cell, window int) moment {
	r := &reader{cells: slices.Clone(cells), window: window}
	for i := range r.cells {
		r.cells[i].Rune = input.Plain(r.cells[i].Rune)
	}
	for at := 0; at >= 0; {
		at = r.data(at)
	}
	return r.moment
}

// rest: the text from a cell on.
func (r *reader) rest(at int) string { return text(r.cells[at:]) }

// say: a rune more of the text, from a place.
func (r *reader) say(one rune, from api.Place) {
	r.runes, r.places = append(r.runes, one), append(r.places, from)
}

// flush: the text ends: in tokens of the window's runes, and one of what is left.
func (r *reader) flush() {
	r.full()
	if len(r.runes) > 0 {
		r.told = append(r.told, api.Token{Text: string(r.runes), At: r.places[0]})
	}
	r.runes, r.places = nil, nil
}

// full: the text goes on, but what fills the window is told.
func (r *reader) full() {
	for len(r.runes) >= r.window {
		r.told = append(r.told, api.Token{Text: string(r.runes[:r.window]), At: r.places[0]})
		r.runes, r.places = r.runes[r.window:], r.places[r.window:]
	}
}

// over: all cells have been read: some at the end, which are held back, are text at the end of the input alone.
func (r *reader) over(held []api.Cell, refs bool) int {
	r.full()
	stop := *r
	stop.told = nil
	stop.flush()
	end := *r
	end.told, end.runes, end.places = nil, slices.Clone(r.runes), slices.Clone(r.places)
	end.decode(held, refs)
	end.flush()
	r.stop, r.left = stop.told, end.told
	return -1
}

// decode: cells become text, with references or without them.
func (r *reader) decode(cells []api.Cell, refs bool) {
	for at := 0; at < len(cells); at++ {
		c := cells[at]
		if c.Rune != '&' || !refs {
			r.say(c.Rune, c.At)
			continue
		}
		says, size, _ := charref.Next(text(cells[at+1:]), false, true)
		if size == 0 {
			says = "&"
		}
		for _, one := range says {
			r.say(input.Plain(one), c.At)
		}
		at += size
	}
}

// data reads from a cell of data on; it tells where to go on, or -1.
func (r *reader) data(at int) int {
	for ; at < len(r.cells); at++ {
		c, rest := r.cells[at], r.rest(at+1)
		switch c.Rune {
		case '<':
			if next, begun := r.less(at, rest); begun {
				return next
			}
			r.say('<', c.At)
		case '&':
			if _, size, sure := charref.Next(rest, false, false); sure {
				r.decode(r.cells[at:at+1+size], true)
				at += size
				continue
			}
			return r.over(r.cells[at:], true)
		default:
			r.say(c.Rune, c.At)
		}
	}
	return r.over(nil, false)
}

// less reads from a < on, if something begins there, or may begin.
func (r *reader) less(at int, rest string) (int, bool) {
	if _, ok := tag.Begins(rest); ok {
		r.flush()
		return r.tag(at, rest), true
	}
	kind, from := markup.Bogus, 0
	switch {
	case rest == "" || rest == "/":
		return r.over(r.cells[at:], true), true
	case strings.HasPrefix(rest, "/>"):
		r.flush()
		return at + 3, true
	case rest[0] == '/':
		from = 1
	case rest[0] == '?':
	case rest[0] == '!':
		kind, from = markup.Open(rest[1:])
		from++
	default:
		return 0, false
	}
	r.flush()
	return r.markup(at, kind, rest, from), true
}

// markup reads a comment or a doctype whose < stands at a cell.
func (r *reader) markup(at, kind int, rest string, from int) int {
	says, size, closed, _ := markup.Whole(kind, rest[from:])
	one := api.Token{Kind: api.TokenComment, At: r.cells[at].At}
	if kind == markup.Doctype {
		one.Kind = api.TokenDoctype
	}
	if runes := []rune(says); len(runes) > r.window {
		says = string(runes[:r.window])
	}
	one.Text = says
	if !closed {
		r.left = []api.Token{one}
		return -1
	}
	r.told = append(r.told, one)
	return at + 1 + utf8.RuneCountInString(rest[:from+size])
}

// tag reads a tag whose < stands at a cell, and what its element has in it.
func (r *reader) tag(at int, rest string) int {
	one, bytes, ended, _ := tag.Whole(rest)
	if !ended {
		return -1
	}
	size := 1 + utf8.RuneCountInString(rest[:bytes])
	one.At = r.cells[at].At
	for i := range one.Attrs {
		one.Attrs[i].Value = input.Clean(one.Attrs[i].Value)
	}
	if size > r.window {
		r.lost = append(r.lost, api.Finding{At: one.At, Why: api.WhyWindow, Name: one.Name})
	} else {
		r.told = append(r.told, one)
	}
	if r.where = api.InData; one.Kind == api.TokenStart {
		r.where = raw.Where(one.Name)
	}
	if r.where == api.InData {
		return at + size
	}
	return r.content(at+size, one.Name)
}

// content reads a content from a cell on, and its end tag.
func (r *reader) content(at int, name string) int {
	rest, refs := r.rest(at), r.where == api.InRcdata
	inside, _, ended, _ := raw.Whole(name, rest)
	size := utf8.RuneCountInString(inside)
	if ended {
		r.decode(r.cells[at:at+size], refs)
		r.flush()
		return r.tag(at+size, r.rest(at+size+1))
	}
	held := unsure(name, rest)
	sure := len(r.cells) - held
	if refs && held == 0 { // the last reference of all may not be sure
		for i := at; i < sure; i++ {
			if r.cells[i].Rune != '&' {
				continue
			}
			_, size, ok := charref.Next(r.rest(i+1), false, false)
			if !ok {
				sure = i
			}
			i += size
		}
	}
	r.decode(r.cells[at:sure], refs)
	return r.over(r.cells[sure:], refs)
}

// unsure: how many runes at the end of a content may be the beginning of its end tag: what is missing of it makes one.
func unsure(name, s string) int {
	whole := "</" + name
	for n := min(len(whole), len(s)); n > 0; n-- {
		at := len(s) - n
		if names.Lower(s[at:]) != whole[:n] {
			continue
		}
		if inside, _, ended, _ := raw.Whole(name, s+whole[n:]+">"); ended && inside == s[:at] {
			return n
		}
	}
	return 0
}

// text: the runes of cells.
func text(cells []api.Cell) string {
	var out strings.Builder
	for _, c := range cells {
		out.WriteRune(c.Rune)
	}
	return out.String()
}

// made: a lexer with a window that may be.
func made(t *testing.T, window int) *lexer.Lexer {
	t.Helper()
	l, e := lexer.New(window)
	if l == nil || e != api.OK {
		t.Fatalf("New(%d): %v, %d", window, l, e)
	}
	return l
}

// feed: what a lexer tells of cells, which it takes.
func feed(t *testing.T, l *lexer.Lexer, cells ...api.Cell) []api.Token {
	t.Helper()
	out, e := l.Feed(cells...)
	if e != api.OK {
		t.Fatalf("Feed: %d", e)
	}
	return out
}

// feedText: the same of a text.
func feedText(t *testing.T, l *lexer.Lexer, s string) []api.Token {
	t.Helper()
	return feed(t, l, input.Read([]byte(s))...)
}

// lex: Lex of a text, with a window that may be.
func lex(t *testing.T, s string, window int) []api.Token {
	t.Helper()
	out, e := lexer.Lex([]byte(s), window)
	if e != api.OK {
		t.Fatalf("Lex(%q, %d): %d", s, window, e)
	}
	return out
}

// same: two lists of tokens, with their places.
func same(a, b []api.Token) bool {
	return slices.EqualFunc(a, b, func(x, y api.Token) bool { return token.Equal(x, y) && x.At == y.At })
}

// lines: tokens as text.
func lines(l []api.Token) string {
	s, e := token.List(l...)
	if e != api.OK {
		return "may not be"
	}
	return s
}

// stands: a lexer that was fed all that a moment knows of says the same.
func stands(t *testing.T, l *lexer.Lexer, m moment, name string) {
	t.Helper()
	if got := l.Where(); got != m.where {
		t.Fatalf("%s: Where: %d; want %d", name, got, m.where)
	}
	if got := l.Lost(); !slices.Equal(got, m.lost) {
		t.Fatalf("%s: Lost: %v; want %v", name, got, m.lost)
	}
}

// agree: two lists of tokens are the same.
func agree(t *testing.T, got, want []api.Token, name string) {
	t.Helper()
	if !same(got, want) {
		t.Fatalf("%s:\n%s%v\nwant:\n%s%v", name, lines(got), got, lines(want), want)
	}
}

// moments holds a lexer against the model behind every cell of a text: one that is fed cell by cell, one that is fed all at once and ended, one that is stopped.
func moments(t *testing.T, s string, window int) {
	t.Helper()
	cells := input.Read([]byte(s))
	one := made(t, window)
	var told []api.Token
	for n := range len(cells) + 1 {
		if n > 0 {
			told = append(told, feed(t, one, cells[n-1])...)
		}
		ahead := cells[:n]
		name := "window " + strconv.Itoa(window) + ", " + text(ahead)
		m := model(ahead, window)
		agree(t, told, m.told, name+", one by one")
		stands(t, one, m, name)

		ended, stopped := made(t, window), made(t, window)
		agree(t, feed(t, ended, ahead...), m.told, name)
		left, e := ended.End()
		if e != api.OK {
			t.Fatalf("%s: End: %d", name, e)
		}
		agree(t, left, m.left, name+", at its end")
		stands(t, ended, m, name+", at its end")

		feed(t, stopped, ahead...)
		left, e = stopped.Stop()
		if e != api.OK {
			t.Fatalf("%s: Stop: %d", name, e)
		}
		agree(t, left, m.stop, name+", stopped")
		stands(t, stopped, m, name+", stopped")
	}
	left, _ := one.End()
	agree(t, append(told, left...), lex(t, s, window), s+", all of it")
}

// texts tells all texts of up to so many parts.
func texts(most int, parts []string, tell func(s string)) {
	var grow func(s string, left int)
	grow = func(s string, left int) {
		tell(s)
		if left == 0 {
			return
		}
		for _, p := range parts {
			grow(s+p, left-1)
		}
	}
	grow("", most)
}

// Names whose content is no data, and what it is.
var (
	rcdata  = []string{"textarea", "title"}
	rawText = []string{"style", "xmp", "iframe", "noembed", "noframes", "noscript"}
	allRaw  = append(append([]string{"script", "plaintext"}, rcdata...), rawText...)
)

// whereOf: the state behind a start tag.
func whereOf(name string) api.Where {
	switch {
	case slices.Contains(rcdata, name):
		return api.InRcdata
	case slices.Contains(rawText, name):
		return api.InRawtext
	case name == "script":
		return api.InScript
	case name == "plaintext":
		return api.InPlaintext
	}
	return api.InData
}
