package event_test

import (
	"fmt"
	"math/rand"
	"regexp"
	"slices"
	"strings"
	"unicode/utf8"

	"sieve/api"
	"sieve/utf"
)

// What the chapters say, typed apart from the program.
const voids = "area base br col embed hr img input link meta source track wbr"

func text(s string) api.Event { return api.Event{Kind: api.EventText, Text: s} }

func open(name string, attrs ...api.Attr) api.Event {
	return api.Event{Kind: api.EventOpen, Name: name, Attrs: attrs}
}

func end(name string) api.Event { return api.Event{Kind: api.EventClose, Name: name} }

func void(name string, attrs ...api.Attr) api.Event {
	return api.Event{Kind: api.EventVoid, Name: name, Attrs: attrs}
}

func attr(name, value string) api.Attr { return api.Attr{Name: name, Value: value} }

// The names that may be.
var (
	tagNames  = regexp.MustCompile(`(?s)^[a-z][^\t\n\f /A-Z>\x00]*$`)
	attrNames = regexp.MustCompile(`(?s)^(=|[^\t\n\f /A-Z>\x00=])[^\t\n\f /A-Z>\x00=]*$`)
)

// mayBe: may an event be?
func mayBe(e api.Event) bool {
	found := map[string]bool{}
	valid, attrs := utf8.ValidString(e.Name) && utf8.ValidString(e.Text), true
	for _, a := range e.Attrs {
		valid = valid && utf8.ValidString(a.Name) && utf8.ValidString(a.Value)
		attrs = attrs && attrNames.MatchString(a.Name) && !found[a.Name]
		found[a.Name] = true
	}
	void := slices.Contains(strings.Fields(voids), e.Name)
	switch e.Kind {
	case api.EventText:
		return valid && e.Text != "" && e.Name == "" && len(e.Attrs) == 0
	case api.EventOpen:
		return valid && attrs && e.Text == "" && tagNames.MatchString(e.Name) && !void
	case api.EventVoid:
		return valid && attrs && e.Text == "" && void
	case api.EventClose:
		return valid && e.Text == "" && len(e.Attrs) == 0 && tagNames.MatchString(e.Name)
	}
	return false
}

// opened: what is open behind events; not ok, if they are not well nested.
func opened(l []api.Event) (names []string, ok bool) {
	for _, e := range l {
		switch last := len(names) - 1; {
		case e.Kind == api.EventOpen:
			names = append(names, e.Name)
		case e.Kind == api.EventClose && (last < 0 || names[last] != e.Name):
			return nil, false
		case e.Kind == api.EventClose:
			names = names[:last]
		}
	}
	return names, true
}

// nested: the first event that is wrong, each looked at behind those ahead of it from the beginning.
func nested(l []api.Event) (int, api.Errno) {
	for at, e := range l {
		if !mayBe(e) {
			return at, api.ErrEventForm
		}
		if _, ok := opened(l[:at+1]); !ok {
			return at, api.ErrEventNest
		}
	}
	return 0, api.OK
}

// depth: the most that are open at once.
func depth(l []api.Event) int {
	most := 0
	for at, e := range l {
		names, _ := opened(l[:at+1])
		n := len(names)
		if e.Kind == api.EventVoid {
			n++
		}
		most = max(most, n)
	}
	return most
}

// closers: what makes events complete.
func closers(l []api.Event) []api.Event {
	names, _ := opened(l)
	var out []api.Event
	for n := len(names); n > 0; n-- {
		out = append(out, end(names[n-1]))
	}
	return out
}

// merged: the texts that are empty go, and then each neighbour of a text goes into it.
func merged(l []api.Event) []api.Event {
	l = slices.DeleteFunc(slices.Clone(l), func(e api.Event) bool { return e.Kind == api.EventText && e.Text == "" })
	for at := len(l) - 1; at > 0; at-- {
		if l[at].Kind == api.EventText && l[at-1].Kind == api.EventText {
			l[at-1].Text += l[at].Text
			l = slices.Delete(l, at, at+1)
		}
	}
	return l
}

// closes: the place of the event that closes the element that is opened at a place; the list's length, if none does.
func closes(l []api.Event, at int) int {
	around := 0
	for n := at; n < len(l); n++ {
		switch l[n].Kind {
		case api.EventOpen:
			around++
		case api.EventClose:
			around--
		}
		if around == 0 {
			return n
		}
	}
	return len(l)
}

// folded: the trees of complete events.
func folded(l []api.Event) []api.Node {
	var out []api.Node
	l = merged(l)
	for at := 0; at < len(l); at++ {
		n := api.Node{Name: l[at].Name, Text: l[at].Text, Attrs: l[at].Attrs}
		if l[at].Kind == api.EventOpen {
			last := closes(l, at)
			n.Kids = folded(l[at+1 : last])
			at = last
		}
		out = append(out, n)
	}
	return out
}

// allText: what the texts say.
func allText(l []api.Event) string {
	out := ""
	for _, e := range l {
		if e.Kind == api.EventText {
			out += utf.Mend(e.Text)
		}
	}
	return out
}

// counted: how many there are of each kind.
func counted(l []api.Event) [4]int {
	var out [4]int
	for kind := range out {
		for _, e := range l {
			if int(e.Kind) == kind {
				out[kind]++
			}
		}
	}
	return out
}

// trimmed: without the elements that have depth or more around them.
func trimmed(depth int, l []api.Event) []api.Event {
	var out []api.Event
	for at := 0; at < len(l); at++ {
		names, _ := opened(l[:at])
		switch deep := len(names) >= depth; {
		case deep && l[at].Kind == api.EventOpen:
			at = closes(l, at)
		case deep && l[at].Kind == api.EventVoid:
		default:
			out = append(out, l[at])
		}
	}
	return out
}

// paths: where each element stands.
func paths(l []api.Event) []string {
	var out []string
	for at, e := range l {
		if e.Kind == api.EventOpen || e.Kind == api.EventVoid {
			path := ""
			names, _ := opened(l[:at])
			for _, name := range names {
				path += name + "/"
			}
			out = append(out, path+e.Name)
		}
	}
	return out
}

// quoted: QUOTED.
func quoted(s string) string {
	return `"` + strings.NewReplacer("\n", `\n`, "\t", `\t`, `"`, `\"`, `\`, `\\`).Replace(s) + `"`
}

// unquoted undoes it.
func unquoted(s string) string {
	return strings.NewReplacer(`\n`, "\n", `\t`, "\t", `\"`, `"`, `\\`, `\`).Replace(s)
}

// printed: the lines of events that may be.
func printed(l []api.Event) string {
	out := ""
	for _, e := range l {
		out += []string{"text ", "open ", "close ", "void "}[e.Kind]
		if e.Kind == api.EventText {
			out += quoted(e.Text)
		} else {
			out += quoted(e.Name)
		}
		for _, a := range e.Attrs {
			out += " " + quoted(a.Name) + "=" + quoted(a.Value)
		}
		out += "\n"
	}
	return out
}

const quotedForm = `"((?:[^"\\\n\t]|\\[nt"\\])*)"`

// What a line may look like, whatever its names are.
var (
	barLine  = regexp.MustCompile(`(?s)^(text|close) ` + quotedForm + `$`)
	fullLine = regexp.MustCompile(`(?s)^(open|void) ` + quotedForm + `((?: ` + quotedForm + `=` + quotedForm + `)*)$`)
	attrPart = regexp.MustCompile(`(?s) ` + quotedForm + `=` + quotedForm)
)

// parsedLine: the event of a line.
func parsedLine(line string) (e api.Event, ok bool) {
	if !utf8.ValidString(line) {
		return e, false
	}
	if m := barLine.FindStringSubmatch(line); m != nil {
		e = end(unquoted(m[2]))
		if m[1] == "text" {
			e = text(unquoted(m[2]))
		}
	} else if m := fullLine.FindStringSubmatch(line); m != nil {
		e = open(unquoted(m[2]))
		if m[1] == "void" {
			e.Kind = api.EventVoid
		}
		for _, a := range attrPart.FindAllStringSubmatch(m[3], -1) {
			e.Attrs = append(e.Attrs, attr(unquoted(a[1]), unquoted(a[2])))
		}
	} else {
		return e, false
	}
	return e, mayBe(e)
}

// parsed: the events of lines.
func parsed(s string) ([]api.Event, int, api.Errno) {
	if s == "" {
		return nil, 0, api.OK
	}
	var out []api.Event
	for at, line := range strings.Split(strings.TrimSuffix(s, "\n"), "\n") {
		e, ok := parsedLine(line)
		if !ok {
			return nil, at + 1, api.ErrEventForm
		}
		out = append(out, e)
	}
	return out, 0, api.OK
}

// show: answers as a text, nil and empty lists being the same.
func show(answers ...any) string {
	return strings.ReplaceAll(fmt.Sprintf("%#v", answers), "(nil)", "{}")
}

// parts: events of a line of parts: 'x a text, +b opens, -b closes, =br is void. In texts _ is nothing.
func parts(line string) []api.Event {
	var l []api.Event
	for _, part := range strings.Fields(line) {
		rest := part[1:]
		l = append(l, map[byte]api.Event{'\'': text(strings.ReplaceAll(rest, "_", "")), '+': open(rest), '-': end(rest), '=': void(rest)}[part[0]])
	}
	return l
}

// impossible: events that may not be, of each kind and of none.
func impossible() []api.Event {
	return []api.Event{
		text(""), text("\xff"), text("a\xe2\x82"), {Text: "x", Name: "b"}, {Text: "x", Attrs: []api.Attr{attr("a", "b")}}, {Name: "b"},
		open(""), open("B"), open("br"), open("wbr"), open("a b"), open("a\xff"), open("1"), open("b", attr("", "")), open("b", attr("A", "")), open("b", attr("a", "\xff")), open("b", attr("a\xff", "")), open("b", attr("a", "1"), attr("a", "2")), {Kind: api.EventOpen, Name: "b", Text: "x"},
		void(""), void("b"), void("BR"), void("param"), void("br", attr("a", "1"), attr("a", "2")), void("br", attr("a=", "")), void("br", attr("a", "\xed\xa0\x80")), {Kind: api.EventVoid, Name: "br", Text: "x"},
		end(""), end("B"), end("a/"), end("b\x00"), end("b\xff"), {Kind: api.EventClose, Name: "b", Text: "x"}, {Kind: api.EventClose, Name: "b", Attrs: []api.Attr{attr("a", "b")}},
		{Kind: 4, Name: "b"}, {Kind: 4}, {Kind: -1, Text: "x"}, {Kind: 1 << 62, Name: "br"}, {Kind: -1 << 63, Text: "x"},
	}
}

// oneOf: any of some things.
func oneOf[T any](r *rand.Rand, l ...T) T { return l[r.Intn(len(l))] }

// someText: a text that may be.
func someText(r *rand.Rand) string {
	return oneOf(r, "a", "b", " ", "\n", "x\n\ty", `"`, `\`, `\n`, "é€\U0001F600", "\x00\r", "<p>", "\ufffd", strings.Repeat("long ", 20))
}

// someAttrs: attributes that may be.
func someAttrs(r *rand.Rand) []api.Attr {
	var out []api.Attr
	for _, at := range r.Perm(5)[:r.Intn(5)*r.Intn(2)] {
		out = append(out, attr([]string{"id", "class", "=x", "é\"", "data-x\\"}[at], oneOf(r, "", someText(r))))
	}
	return out
}

// someName: a name that is not void, and may be.
func someName(r *rand.Rand) string {
	return oneOf(r, "p", "b", "div", "textarea", "a<\"b", "x-é", "param")
}

// someTree: complete events.
func someTree(r *rand.Rand, size, deep int) []api.Event {
	var out []api.Event
	for range r.Intn(size + 1) {
		switch r.Intn(4) {
		case 0:
			out = append(out, void(oneOf(r, "br", "img", "hr"), someAttrs(r)...))
		case 1:
			if deep > 0 {
				name := someName(r)
				out = append(out, open(name, someAttrs(r)...))
				out = append(out, someTree(r, size, deep-1)...)
				out = append(out, end(name))
			}
		default:
			out = append(out, text(someText(r)))
		}
	}
	return out
}

// someNested: well nested events, complete or not.
func someNested(r *rand.Rand) []api.Event {
	l := someTree(r, 5, 5)
	return l[:r.Intn(len(l)+1)]
}

// someEvents: any events: well nested ones, and sometimes one that is wrong among them, or nothing but chance.
func someEvents(r *rand.Rand) []api.Event {
	l := someNested(r)
	switch r.Intn(4) {
	case 0:
		return slices.Insert(l, r.Intn(len(l)+1), oneOf(r, impossible()...))
	case 1:
		return slices.Insert(l, r.Intn(len(l)+1), oneOf(r, end("p"), end("b"), open("b"), text(""), end("br")))
	case 2:
		l = nil
		for range r.Intn(6) {
			l = append(l, oneOf(r, open("p"), open("b"), end("p"), end("b"), void("br"), text("x")))
		}
	}
	return l
}

// allLists: all lists of up to a number of some events.
func allLists(events []api.Event, most int, try func(l []api.Event)) {
	var grow func(l []api.Event)
	grow = func(l []api.Event) {
		try(slices.Clone(l))
		if len(l) < most {
			for _, e := range events {
				grow(append(l, e))
			}
		}
	}
	grow(nil)
}
