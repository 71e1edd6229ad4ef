package balance_test

import (
	"fmt"
	"math/rand"
	"slices"
	"strconv"
	"strings"

	"sieve/api"
	"sieve/nest"
	"sieve/token"
)

// What the chapters say, typed apart from the program.
const (
	allowed = "a abbr address article aside b bdi bdo blockquote br caption center cite code col colgroup data dd del details dfn dialog div dl dt em figcaption figure footer h1 h2 h3 h4 h5 h6 header hgroup hr i img ins kbd label li main mark menu nav ol p pre q s samp search section small span strong sub summary sup table tbody td textarea tfoot th thead time tr u ul var wbr"
	voids   = "area base br col embed hr img input link meta source track wbr"
	barred  = "script style title xmp iframe noembed noframes noscript plaintext svg math select option form input area embed link meta base source track param frame html head body nobr big font listing dir a<b my-tag zé x\u0080y"
)

// among: is a name one of a text's words?
func among(words, name string) bool { return slices.Contains(strings.Fields(words), name) }

// place is one that is not zero; each token of a list gets one of its own by it.
func place(n int) api.Place { return api.Place{Byte: 7 * n, Line: n + 1, Col: 2*n + 1} }

func text(s string) api.Token { return api.Token{Kind: api.TokenText, Text: s} }

func start(name string, attrs ...api.Attr) api.Token {
	return api.Token{Kind: api.TokenStart, Name: name, Attrs: attrs}
}

func self(name string, attrs ...api.Attr) api.Token {
	return api.Token{Kind: api.TokenStart, Name: name, Attrs: attrs, Self: true}
}

func end(name string) api.Token { return api.Token{Kind: api.TokenEnd, Name: name} }

func comment(s string) api.Token { return api.Token{Kind: api.TokenComment, Text: s} }

func doctype() api.Token { return api.Token{Kind: api.TokenDoctype} }

func attr(name, value string) api.Attr { return api.Attr{Name: name, Value: value} }

// placed: tokens with places of their own.
func placed(l ...api.Token) []api.Token {
	out := slices.Clone(l)
	for at := range out {
		out[at].At = place(at)
	}
	return out
}

// tokens of a line of parts: +b a start tag, -b an end tag, 'x a text, !x a comment, ! a doctype. In texts ~ is a line feed,
// _ a space, ^ a tab, % a form feed.
func tokens(line string) []api.Token {
	var l []api.Token
	for _, part := range strings.Fields(line) {
		switch rest := part[1:]; {
		case part[0] == '+':
			l = append(l, start(rest))
		case part[0] == '-':
			l = append(l, end(rest))
		case part[0] == '\'':
			l = append(l, text(strings.NewReplacer("~", "\n", "_", " ", "^", "\t", "%", "\f").Replace(rest)))
		case rest == "":
			l = append(l, doctype())
		default:
			l = append(l, comment(rest))
		}
	}
	return placed(l...)
}

// line: events as a line of parts: as tokens are written, with =br for a void element.
func line(l []api.Event) string {
	var out []string
	for _, e := range l {
		attrs := ""
		for _, a := range e.Attrs {
			attrs += fmt.Sprintf("[%s=%q]", a.Name, a.Value)
		}
		switch {
		case e.Kind == api.EventText && e.Name == "" && attrs == "":
			out = append(out, "'"+strings.NewReplacer("\n", "~", " ", "_", "\t", "^", "\f", "%").Replace(e.Text))
		case e.Kind == api.EventOpen && e.Text == "":
			out = append(out, "+"+e.Name+attrs)
		case e.Kind == api.EventClose && e.Text == "" && attrs == "":
			out = append(out, "-"+e.Name)
		case e.Kind == api.EventVoid && e.Text == "":
			out = append(out, "="+e.Name+attrs)
		default:
			out = append(out, fmt.Sprintf("%+v", e))
		}
	}
	return strings.Join(out, " ")
}

// finds: findings as a line of parts such as 3:depth:i: the number of the token whose place it is, the reason, the name.
func finds(l []api.Finding) string {
	reasons := map[api.Why]string{api.WhyElement: "element", api.WhyDepth: "depth", api.WhyImplied: "implied", api.WhyStray: "stray"}
	var out []string
	for _, f := range l {
		n := f.At.Byte / 7
		if why, ok := reasons[f.Why]; ok && f.At == place(n) {
			out = append(out, strconv.Itoa(n)+":"+why+":"+f.Name)
		} else {
			out = append(out, fmt.Sprintf("%+v", f))
		}
	}
	return strings.Join(out, " ")
}

// show: an answer.
func show(l []api.Event, f []api.Finding, e api.Errno) string {
	return line(l) + "\n" + finds(f) + "\n" + e.Error()
}

// opened: what is open behind events, from the outside; not ok, if one of them does not fit.
func opened(l []api.Event) (open []string, ok bool) {
	for _, e := range l {
		switch e.Kind {
		case api.EventOpen:
			open = append(open, e.Name)
		case api.EventClose:
			if len(open) == 0 || open[len(open)-1] != e.Name {
				return nil, false
			}
			open = open[:len(open)-1]
		}
	}
	return open, true
}

// model: what a balancer answers, by the chapter's words. All that it knows are the events that it told, and the ghosts.
type model struct {
	depth  int
	told   []api.Event
	ghosts []string
}

// open: the stack.
func (m *model) open() []string {
	open, _ := opened(m.told)
	return open
}

// fresh: does it stand directly behind the opening of a pre or textarea?
func (m *model) fresh() bool {
	if len(m.told) == 0 {
		return false
	}
	e := m.told[len(m.told)-1]
	return e.Kind == api.EventOpen && (e.Name == "pre" || e.Name == "textarea")
}

// closeTop: so many elements are closed, from the top.
func (m *model) closeTop(n int) {
	for ; n > 0; n-- {
		open := m.open()
		m.told = append(m.told, api.Event{Kind: api.EventClose, Name: open[len(open)-1]})
		m.ghosts = nil
	}
}

// take: P17.2, but for the errors of a balancer that is over or not made.
func (m *model) take(t api.Token) (l []api.Event, f []api.Finding, e api.Errno) {
	from := len(m.told)
	find := func(why api.Why, name string) {
		f = append(f, api.Finding{At: t.At, Why: why, Name: name})
	}
	plan := func(p api.Plan) {
		m.closeTop(p.Close)
		for _, name := range p.Insert {
			m.told = append(m.told, api.Event{Kind: api.EventOpen, Name: name})
			find(api.WhyImplied, name)
		}
	}
	if token.Check(t) != api.OK {
		return nil, nil, 70
	}
	switch t.Kind {
	case api.TokenStart:
		void := among(voids, t.Name)
		p, _ := nest.Open(m.open(), t.Name)
		switch size := len(m.open()) - p.Close + len(p.Insert) + 1; {
		case !among(allowed, t.Name):
			find(api.WhyElement, t.Name)
		case size > m.depth:
			find(api.WhyDepth, t.Name)
			if !void {
				m.ghosts = append(m.ghosts, t.Name)
			}
		default:
			plan(p)
			kind := api.EventOpen
			if void {
				kind = api.EventVoid
			}
			m.told = append(m.told, api.Event{Kind: kind, Name: t.Name, Attrs: t.Attrs})
		}
	case api.TokenText:
		s := t.Text
		for m.fresh() && strings.HasPrefix(s, "\n") {
			s = s[1:]
		}
		blank := strings.Trim(s, "\t\n\f ") == ""
		p, _ := nest.Text(m.open(), blank)
		switch size := len(m.open()) - p.Close + len(p.Insert); {
		case s == "" || p.Drop:
		case size > m.depth:
			find(api.WhyDepth, "")
		default:
			plan(p)
			m.told = append(m.told, api.Event{Kind: api.EventText, Text: s})
		}
	case api.TokenEnd:
		ghost := -1
		for at, name := range m.ghosts {
			if name == t.Name {
				ghost = at
			}
		}
		if ghost >= 0 {
			m.ghosts = m.ghosts[:ghost]
			break
		}
		n, _ := nest.End(m.open(), t.Name)
		if n == 0 {
			find(api.WhyStray, t.Name)
		}
		m.closeTop(n)
	}
	return m.told[from:], f, 0
}

// end: P17.3.
func (m *model) end() []api.Event {
	from := len(m.told)
	m.closeTop(len(m.open()))
	return m.told[from:]
}

// allOf: what All answers, by the chapter's words.
func allOf(depth int, l ...api.Token) (told []api.Event, f []api.Finding, e api.Errno) {
	m := &model{depth: depth}
	for _, t := range l {
		_, of, e := m.take(t)
		if e != 0 {
			return nil, nil, e
		}
		f = append(f, of...)
	}
	m.end()
	return m.told, f, 0
}

// impossible: tokens that may not be.
func impossible() []api.Token {
	return []api.Token{
		text(""), text("\xff"), start(""), start("B"), start("bI"), start("a b"), start("1"), start("é"), start("b\xff"), end("B"), end(""), end("b/"), comment("\xe2\x82"),
		start("b", attr("", "x")), start("b", attr("X", "x")), start("a", attr("href", "1"), attr("href", "2")), start("a", attr("href", "\xff")), start("br", attr("h\xc3", "")), start("script", attr("x", "\xff")),
		{Kind: api.TokenText, Name: "b", Text: "x"}, {Kind: api.TokenText, Text: "x", Self: true}, {Kind: api.TokenText, Text: "x", Attrs: []api.Attr{attr("a", "")}},
		{Kind: api.TokenStart, Name: "b", Text: "x"}, {Kind: api.TokenEnd, Name: "b", Self: true}, {Kind: api.TokenEnd, Name: "b", Attrs: []api.Attr{attr("a", "")}}, {Kind: api.TokenEnd, Name: "b", Text: "x"},
		{Kind: api.TokenComment, Name: "b"}, {Kind: api.TokenComment, Self: true}, {Kind: api.TokenDoctype, Text: "x"}, {Kind: api.TokenDoctype, Name: "html"},
		{Kind: -1, Text: "x"}, {Kind: 5, Text: "x"}, {Kind: 5, Name: "b"}, {Kind: -1 << 63}, {Kind: 1<<63 - 1},
	}
}

// Names that are told apart, and texts that come in any mix.
var (
	often     = strings.Fields("p b a i h1 h2 div ul ol li dl dt dd table caption colgroup col tbody thead tr td th pre textarea br hr")
	someTexts = []string{"x", "x\n", " ", "\n", "\n\n", "\nx", "\n ", " \n", "\t\f", "\t \n\f", "\r", "\r\n", "\u00a0", "\u0085", "\v", "\x00", "é€\U0001F600", "<b>&amp;"}
)

// someToken: a token that may be.
func someToken(r *rand.Rand) api.Token {
	name := often[r.Intn(len(often))]
	if all := strings.Fields(allowed + " " + barred); r.Intn(6) == 0 {
		name = all[r.Intn(len(all))]
	}
	switch r.Intn(12) {
	case 0:
		return comment(name)
	case 1:
		return doctype()
	case 2, 3, 4:
		return text(someTexts[r.Intn(len(someTexts))])
	case 5, 6, 7:
		return end(name)
	}
	t := start(name)
	for _, a := range []string{"href", "class", "=", "é"} {
		if r.Intn(5) == 0 {
			t.Attrs = append(t.Attrs, attr(a, someTexts[r.Intn(len(someTexts))]))
		}
	}
	t.Self = r.Intn(8) == 0
	return t
}

// someTokens: tokens that may be, each with a place of its own.
func someTokens(r *rand.Rand, most int) []api.Token {
	var l []api.Token
	for range r.Intn(most + 1) {
		l = append(l, someToken(r))
	}
	return placed(l...)
}

// someDepth: a cap, a low one more often.
func someDepth(r *rand.Rand) int {
	if r.Intn(4) == 0 {
		return 1 + r.Intn(512)
	}
	return 1 + r.Intn(8)
}
