package event

import (
	"strings"

	"sieve/api"
	"sieve/token"
)

// words: what a line begins with, by the event's kind.
var words = [...]string{
	api.EventText:  "text",
	api.EventOpen:  "open",
	api.EventClose: "close",
	api.EventVoid:  "void",
}

// tokenWords: what the line of the token that says the same begins with.
var tokenWords = [...]string{
	api.EventText:  "text",
	api.EventOpen:  "start",
	api.EventClose: "end",
	api.EventVoid:  "start",
}

// Print: events as lines.
func Print(l ...api.Event) (string, api.Errno) {
	var out strings.Builder
	for _, e := range l {
		if err := Check(e); err != api.OK {
			return "", err
		}
		out.WriteString(words[e.Kind])
		out.WriteString(behindWord(e))
		out.WriteByte('\n')
	}
	return out.String(), api.OK
}

// behindWord: what stands in a line behind its word; a token's line has the same there.
func behindWord(e api.Event) string {
	t, _ := asToken(e)
	line, _ := token.Print(t)
	return strings.TrimPrefix(line, tokenWords[e.Kind])
}

// Parse: the events of lines.
func Parse(s string) (l []api.Event, line int, err api.Errno) {
	var r reader
	defer func() {
		if recover() != nil {
			line, err = r.line, api.ErrEventForm
		}
	}()
	return r.events(s), 0, api.OK
}

// reader goes through lines. It gives up by a panic at the first one that is none, from however deep inside.
type reader struct {
	line int // the number of the line that it is at
}

// giveUp: the line is none.
func giveUp() { panic(api.ErrEventForm) }

// events: those of all lines.
func (r *reader) events(s string) []api.Event {
	var out []api.Event
	for s != "" {
		line, rest, _ := strings.Cut(s, "\n")
		r.line++
		out = append(out, event(line))
		s = rest
	}
	return out
}

// event: that of a line.
func event(line string) api.Event {
	word, rest, _ := strings.Cut(line, " ")
	kind := kindOf(word)
	t := tokenOf(tokenWords[kind] + " " + rest)
	e := api.Event{Kind: kind, Name: t.Name, Text: t.Text, Attrs: t.Attrs}
	// No event says the sign of a start tag that ends with />.
	if t.Self || Check(e) != api.OK {
		giveUp()
	}
	return e
}

// kindOf: the kind that a word says.
func kindOf(word string) api.EventKind {
	for kind, w := range words {
		if w == word {
			return api.EventKind(kind)
		}
	}
	giveUp()
	return 0
}

// tokenOf: the token of a line.
func tokenOf(line string) api.Token {
	l, _, e := token.Parse(line)
	if e != api.OK {
		giveUp()
	}
	return l[0]
}
