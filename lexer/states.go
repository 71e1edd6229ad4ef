package lexer

import (
	"iter"

	"sieve/api"
	"sieve/input"
	"sieve/markup"
	"sieve/tag"
)

// state is what a lexer has begun.
type state int

const (
	notMade     state = iota
	inData            // nothing: all is text up to a <
	behindLess        // <
	behindSlash       // </
	behindBang        // <! and what may say what begins so
	scanning          // something that a scanner takes to its end
	over
)

// What stands behind a <! that begins no bogus comment.
const (
	dashes  = "--"
	doctype = "doctype"
)

// run hands up the tokens that cells make sure, each behind the cell that does.
func (l *Lexer) run(cells []api.Cell) iter.Seq[api.Token] {
	return func(yield func(api.Token) bool) {
		for _, c := range cells {
			c.Rune = input.Plain(c.Rune)
			l.step(c)
			for _, t := range l.take() {
				if !yield(t) {
					return
				}
			}
		}
	}
}

// step goes through the states with a cell. One that shows a < to be text is looked at again as any cell of data.
func (l *Lexer) step(c api.Cell) {
again:
	switch l.state {
	case inData:
		if c.Rune != '<' {
			l.add(c)
			return
		}
		l.settle(true) // no reference goes on with it
		l.hold(c, behindLess)
	case behindLess:
		switch {
		case c.Rune == '/':
			l.hold(c, behindSlash)
		case c.Rune == '!': // something begins so, whatever follows
			l.flush()
			l.hold(c, behindBang)
		case c.Rune == '?':
			l.hold(c, behindLess)
			l.beginMarkup(markup.Bogus, len("<"))
		case letter(c.Rune):
			l.hold(c, behindLess)
			l.beginTag(l.held)
		default:
			l.release()
			goto again
		}
	case behindSlash:
		l.hold(c, behindSlash)
		switch {
		case c.Rune == '>':
			l.flush()
			l.leave()
		case letter(c.Rune):
			l.beginTag(l.held)
		default:
			l.beginMarkup(markup.Bogus, len("</"))
		}
	case behindBang:
		l.hold(c, behindBang)
		if kind, size, sure := opens(text(l.held[len("<!"):])); sure {
			l.beginMarkup(kind, len("<!")+size)
		}
	case scanning:
		l.scanner.put(l, c)
	}
}

// finish: the input is at its end.
func (l *Lexer) finish() {
	switch l.state {
	case behindLess, behindSlash:
		l.release()
	case behindBang:
		kind, size := markup.Open(text(l.held[len("<!"):]))
		l.beginMarkup(kind, len("<!")+size)
		fallthrough
	case scanning:
		l.scanner.end(l)
	}
	l.settle(true)
	l.flush()
}

// hold keeps a cell till it is known what begins with those that are held.
func (l *Lexer) hold(c api.Cell, next state) {
	l.held = append(l.held, c)
	l.state = next
}

// release: nothing begins with the cells that are held: they are text.
func (l *Lexer) release() {
	for _, c := range l.held {
		l.add(c)
	}
	l.leave()
}

// leave: what was begun is over, and data stands behind it.
func (l *Lexer) leave() {
	l.state, l.where = inData, api.InData
	l.held, l.scanner = nil, nil
}

// begin: something has begun that ends the text; its scanner takes the cells that have come of it.
func (l *Lexer) begin(s scanner, cells []api.Cell) {
	l.flush()
	l.state, l.scanner, l.held = scanning, s, nil
	for _, c := range cells {
		s.put(l, c)
	}
}

// beginTag: cells from a < on begin a tag.
func (l *Lexer) beginTag(cells []api.Cell) {
	l.begin(newTag(l.window, cells[0].At), cells[1:])
}

// beginMarkup: the cells that are held begin markup, which has those from a number on.
func (l *Lexer) beginMarkup(kind, from int) {
	l.begin(newComment(kind, l.window, l.held[0].At), l.held[from:])
}

// opens: what begins with what stands behind <!, behind how many runes of it, and whether that is so whatever follows.
func opens(s string) (kind, size int, sure bool) {
	kind, size = markup.Open(s)
	return kind, size, kind != markup.Bogus || !completes(s, dashes) && !completes(s, doctype)
}

// completes: is a text the beginning of a word that opens something? Then what is missing of the word opens it.
func completes(s, word string) bool {
	if len(s) >= len(word) {
		return false
	}
	kind, _ := markup.Open(s + word[len(s):])
	return kind != markup.Bogus
}

// letter: may a rune begin a tag's name?
func letter(r rune) bool {
	_, ok := tag.Begins(string(r))
	return ok
}
