package lexer

import (
	"slices"

	"sieve/api"
	"sieve/input"
	"sieve/markup"
	"sieve/raw"
	"sieve/tag"
)

// scanner takes the cells of what has begun, be it a tag (layer 8), markup (layer 9) or a content without tags (layer
// 10), and lets the lexer know what comes of them.
type scanner interface {
	put(l *Lexer, c api.Cell) // a cell more
	end(l *Lexer)             // no more will come
}

// tagScanner is layer 8's scanner of a tag. When that gets longer than the window, its attributes are not kept.
type tagScanner struct {
	*tag.Scanner
	window int
	at     api.Place
	runes  []rune // behind the <, while it is not too long
	kind   api.TokenKind
	long   bool
}

// newTag: one of a tag whose < stands at a place.
func newTag(window int, at api.Place) *tagScanner {
	return &tagScanner{Scanner: tag.New(), window: window, at: at, kind: api.TokenStart}
}

func (s *tagScanner) put(l *Lexer, c api.Cell) {
	if ended, _ := s.Put(c.Rune); ended {
		s.tell(l)
		return
	}
	if s.long {
		return
	}
	s.runes = append(s.runes, c.Rune)
	if len("<")+len(s.runes) == s.window { // its > will be one too many
		s.shrink()
	}
}

// end: a tag that has not come to its > is nothing.
func (s *tagScanner) end(*Lexer) {}

// shrink: the tag is scanned on as an end tag of its name: that ends where it would, and gathers nothing on its way.
func (s *tagScanner) shrink() {
	s.Scanner, s.long = tag.New(), true
	if s.runes[0] == '/' {
		s.kind = api.TokenEnd
	} else {
		s.Put('/')
	}
	for _, r := range s.runes {
		s.Put(r)
	}
	s.runes = nil
}

// tell: the tag has come to its end.
func (s *tagScanner) tell(l *Lexer) {
	t, _ := s.Token()
	t.At = s.at
	if s.long {
		t.Kind = s.kind
		l.lost = append(l.lost, api.Finding{At: s.at, Why: api.WhyWindow, Name: t.Name})
	} else {
		for i := range t.Attrs {
			t.Attrs[i].Value = input.Clean(t.Attrs[i].Value)
		}
		l.tell(t)
	}
	l.leave()
	if t.Kind == api.TokenStart {
		l.enter(t.Name)
	}
}

// tail is how many of the last runes of a comment say where its scanner stands: behind -, --, --! or none of them.
const tail = 3

// comment is layer 9's scanner of a comment or a doctype. What it says beyond the window is not kept.
type comment struct {
	*markup.Scanner
	kind   int
	window int
	at     api.Place
	count  int        // of the runes that the scanner took
	last   [tail]rune // of these
	says   string     // if it is long
	long   bool       // it says as many runes as the window has, or more
}

// newComment: one of markup of a kind, whose < stands at a place.
func newComment(kind, window int, at api.Place) *comment {
	s, _ := markup.New(kind)
	return &comment{Scanner: s, kind: kind, window: window, at: at}
}

func (s *comment) put(l *Lexer, c api.Cell) {
	if closed, _ := s.Put(c.Rune); closed {
		s.tell(l)
		return
	}
	s.last = [tail]rune{s.last[1], s.last[2], c.Rune}
	s.count++
	if s.count == s.window+tail { // all but the last ones are said, whatever follows
		s.shrink()
	}
}

func (s *comment) end(l *Lexer) {
	s.End()
	s.tell(l)
}

// shrink: the comment is scanned on by a scanner that has gathered nothing, and stands where the one so far does.
func (s *comment) shrink() {
	if !s.long {
		s.says, s.long = first(s.Text(), s.window), true
	}
	s.Scanner, _ = markup.New(s.kind)
	s.Put(' ') // the very beginning of a comment, where a > would end it, is past
	for _, r := range s.last {
		s.Put(r)
	}
	s.count = len(" ") + tail
}

// tell: the comment has come to its end.
func (s *comment) tell(l *Lexer) {
	if !s.long {
		s.says = first(s.Text(), s.window)
	}
	t := api.Token{Kind: api.TokenComment, Text: s.says, At: s.at}
	if s.kind == markup.Doctype {
		t.Kind = api.TokenDoctype
	}
	l.tell(t)
	l.leave()
}

// first: so many runes of a text, or all of them.
func first(s string, most int) string {
	count := 0
	for at := range s {
		if count == most {
			return s[:at]
		}
		count++
	}
	return s
}

// content is layer 10's scanner of a content, with the cells that it holds.
type content struct {
	*raw.Scanner
	held []api.Cell
	refs bool
}

// enter: behind the start tag of an element its content stands, if that is no data.
func (l *Lexer) enter(name string) {
	s, e := raw.New(name)
	if e != api.OK {
		return
	}
	l.where = raw.Where(name)
	l.state, l.scanner = scanning, &content{Scanner: s, refs: l.where == api.InRcdata}
}

func (s *content) put(l *Lexer, c api.Cell) {
	s.held = append(s.held, c)
	ended, _ := s.Put(c.Rune)
	s.Take() // its runes are those of the cells that are let out
	if ended {
		l.beginTag(s.held)
		return
	}
	s.letOut(l, len(s.held)-s.Held())
	if len(s.held) > 0 { // no reference goes on with their <
		l.settle(true)
	}
}

func (s *content) end(l *Lexer) { s.letOut(l, len(s.held)) }

// letOut: so many of the cells that are held are text.
func (s *content) letOut(l *Lexer, size int) {
	for _, c := range s.held[:size] {
		if s.refs {
			l.add(c)
		} else {
			l.say(c.Rune, c.At)
		}
	}
	s.held = slices.Delete(s.held, 0, size)
}
