package filter_test

import (
	"fmt"
	"math/rand"
	"slices"
	"strings"
	"unicode/utf8"

	"sieve/api"
	"sieve/input"
	"sieve/token"
	"sieve/value"
)

// What the chapter says, typed apart from the program.
const (
	voids   = "area base br col embed hr img input link meta source track wbr"
	rawText = "style xmp iframe noembed noframes noscript"
)

// place is one that is not zero; each token of a list gets one of its own by it.
func place(n int) api.Place { return api.Place{Byte: 7 * n, Line: n + 1, Col: 2*n + 1} }

func text(s string) api.Token { return api.Token{Kind: api.TokenText, Text: s} }

func start(name string, attrs ...api.Attr) api.Token {
	return api.Token{Kind: api.TokenStart, Name: name, Attrs: attrs}
}

func self(name string, attrs ...api.Attr) api.Token {
	return api.Token{Kind: api.TokenStart, Name: name, Attrs: attrs, Self: true}
}

func end(name string) api.Token { return api.Token{Kind: api.TokenEnd, Name: name} }

func comment(s string) api.Token { return api.Token{Kind: api.TokenComment, Text: s} }

func doctype() api.Token { return api.Token{Kind: api.TokenDoctype} }

func attr(name, value string) api.Attr { return api.Attr{Name: name, Value: value} }

func rule(name string, kind api.ValueKind, words ...string) api.Rule {
	return api.Rule{Name: name, Kind: kind, Words: words}
}

func element(name string, rules ...api.Rule) api.Element {
	return api.Element{Name: name, Rules: rules}
}

func found(why api.Why, name string) api.Finding { return api.Finding{Why: why, Name: name} }

// placed: tokens with places of their own.
func placed(l ...api.Token) []api.Token {
	out := slices.Clone(l)
	for at := range out {
		out[at].At = place(at)
	}
	return out
}

// showTokens: all of some tokens, with nil and empty lists alike.
func showTokens(l ...api.Token) string {
	var out strings.Builder
	for _, t := range l {
		fmt.Fprintf(&out, "%d %q %q %q %v %v\n", t.Kind, t.Name, t.Text, append([]api.Attr{}, t.Attrs...), t.Self, t.At)
	}
	return out.String()
}

// showFound: all of some findings, with nil and empty lists alike.
func showFound(l ...api.Finding) string {
	var out strings.Builder
	for _, f := range l {
		fmt.Fprintf(&out, "%d %q %v\n", f.Why, f.Name, f.At)
	}
	return out.String()
}

// show: an answer.
func show(l []api.Token, f []api.Finding, e api.Errno) string {
	return fmt.Sprintf("%s%s%d", showTokens(l...), showFound(f...), e)
}

// model: what a filter answers, by the chapter's words.
type model struct {
	p    api.Policy
	name string
	n    int
}

// take: P15.2.
func (m *model) take(t api.Token) (left []api.Token, f []api.Finding, e api.Errno) {
	find := func(why api.Why, name string) {
		f = append(f, api.Finding{At: t.At, Why: why, Name: name})
	}
	if token.Check(t) != api.OK {
		return nil, nil, 70
	}
	if m.n > 0 {
		m.within(t)
		return nil, nil, 0
	}
	at := slices.IndexFunc(m.p.Elements, func(e api.Element) bool { return e.Name == t.Name })
	switch {
	case t.Kind == api.TokenComment:
		find(api.WhyComment, "")
	case t.Kind == api.TokenDoctype:
		find(api.WhyDoctype, "")
	case t.Kind == api.TokenText:
		left = append(left, api.Token{Kind: api.TokenText, Text: input.Clean(t.Text), At: t.At})
	case t.Kind == api.TokenEnd && at >= 0:
		left = append(left, api.Token{Kind: api.TokenEnd, Name: t.Name, At: t.At})
	case t.Kind == api.TokenEnd:
	case at < 0 && among(voids, t.Name):
		find(api.WhyElement, t.Name)
	case at < 0 && (slices.Contains(m.p.Drop, t.Name) || among(rawText+" script plaintext", t.Name)):
		find(api.WhyContent, t.Name)
		m.name, m.n = t.Name, 1
	case at < 0:
		find(api.WhyElement, t.Name)
	default:
		out := api.Token{Kind: api.TokenStart, Name: t.Name, At: t.At}
		for _, a := range t.Attrs {
			r := slices.Concat(m.p.Elements[at].Rules, m.p.Global)
			has := slices.IndexFunc(r, func(r api.Rule) bool { return r.Name == a.Name })
			if has < 0 {
				find(api.WhyAttr, a.Name)
			} else if s, ok, _ := value.Tidy(r[has], m.p.Schemes, m.p.Relative, a.Value); !ok {
				find(api.WhyValue, a.Name)
			} else {
				out.Attrs = append(out.Attrs, attr(a.Name, s))
			}
		}
		if runes(out) > m.p.Window {
			find(api.WhyWindow, t.Name)
		} else {
			left = append(left, out)
		}
	}
	return left, f, 0
}

// within: a token within an element that is being dropped.
func (m *model) within(t api.Token) {
	if t.Kind == api.TokenStart && t.Name == m.name {
		m.n++
	}
	if t.Kind == api.TokenEnd && t.Name == m.name {
		m.n--
	}
	if m.n == 0 {
		m.name = ""
	}
}

// canonical: a start tag's markup, as the writer will write it.
func canonical(t api.Token) string {
	s := "<" + t.Name
	for _, a := range t.Attrs {
		s += " " + a.Name + `="` + strings.NewReplacer("&", "&amp;", "<", "&lt;", ">", "&gt;", "\u00a0", "&nbsp;", `"`, "&quot;").Replace(a.Value) + `"`
	}
	return s + ">"
}

// runes: how many runes it has.
func runes(t api.Token) int { return utf8.RuneCountInString(canonical(t)) }

// among: is a name one of a text's words?
func among(words, name string) bool { return slices.Contains(strings.Fields(words), name) }

// allOf: what All answers, by the chapter's words.
func allOf(p api.Policy, l ...api.Token) (left []api.Token, f []api.Finding, e api.Errno) {
	m := &model{p: p}
	for _, t := range l {
		some, of, e := m.take(t)
		if e != 0 {
			return nil, nil, e
		}
		left, f = append(left, some...), append(f, of...)
	}
	return left, f, 0
}

// plain: the chapter's policy of its examples, with a window that is large enough.
func plain() api.Policy {
	return api.Policy{Elements: []api.Element{element("a", rule("href", api.ValueLink)), element("b")}, Drop: []string{"svg"}, Relative: true, Depth: 9, Window: 4096}
}

// impossible: tokens that may not be.
func impossible() []api.Token {
	return []api.Token{
		text(""), text("\xff"), start(""), start("A"), start("aB"), start("a b"), start("1"), start("é"), start("a\xff"), end("A"), end(""), end("a/"), comment("\xe2\x82"),
		start("a", attr("", "x")), start("a", attr("X", "x")), start("a", attr("href", "1"), attr("href", "2")), start("a", attr("href", "\xff")), start("b", attr("h\xc3", "")), start("svg", attr("x", "\xff")), start("svg", attr("Y", "")),
		{Kind: api.TokenText, Name: "a", Text: "x"}, {Kind: api.TokenText, Text: "x", Self: true}, {Kind: api.TokenText, Text: "x", Attrs: []api.Attr{attr("a", "")}},
		{Kind: api.TokenStart, Name: "a", Text: "x"}, {Kind: api.TokenEnd, Name: "svg", Self: true}, {Kind: api.TokenEnd, Name: "svg", Attrs: []api.Attr{attr("a", "")}}, {Kind: api.TokenEnd, Name: "svg", Text: "x"},
		{Kind: api.TokenComment, Name: "a"}, {Kind: api.TokenComment, Self: true}, {Kind: api.TokenDoctype, Text: "x"}, {Kind: api.TokenDoctype, Name: "html"},
		{Kind: -1, Text: "x"}, {Kind: 5, Text: "x"}, {Kind: 5, Name: "svg"}, {Kind: -1 << 63}, {Kind: 1<<63 - 1},
	}
}

// Names and values that come in any mix.
var (
	tagNames  = append(strings.Fields("a b i p ul li td table div textarea h1 br img hr col wbr script style xmp iframe noembed noframes noscript plaintext svg math select template title video param frame keygen embed area input u html body"), "a<b", "my-tag", `x"y`, "zé")
	attrNames = []string{"href", "src", "cite", "class", "id", "lang", "dir", "title", "width", "start", "value", "onclick", "style", "data-x", "=", "=x", "<", `"`, "xlink:href", "é", "a\"b"}
	someTexts = []string{"x", " ", "\n", "a\r\nb\rc", "\x00", "a\x01\u0085\ufffe\U0001ffff\ufdd0z", "é€\U0001F600", "<&>\"\u00a0", "\ufffd", "\t\f", "\x7f\u009f"}
	values    = []string{"", "x", "/x", "x y", " a\tb  a ", "007", "50%", "-1", "LEFT", "auto", "RTL", "https://x", "HTTPS:x", "java\nscript:x", "javascript:x", "mailto:a@b", "data:,x", "de-CH", "de-", "a:b", "<\">&\u00a0'", "a\x00b", "\r\n", "\ufffe", "é€"}
)

// someToken: a token that may be.
func someToken(r *rand.Rand) api.Token {
	pick := func(l []string) string { return l[r.Intn(len(l))] }
	switch r.Intn(10) {
	case 0:
		return comment(pick(values))
	case 1:
		return doctype()
	case 2, 3:
		return text(pick(someTexts))
	case 4, 5:
		return end(pick(tagNames))
	}
	t := start(pick(tagNames))
	for range r.Intn(5) {
		if name := pick(attrNames); !slices.ContainsFunc(t.Attrs, func(a api.Attr) bool { return a.Name == name }) {
			t.Attrs = append(t.Attrs, attr(name, pick(values)))
		}
	}
	t.Self = r.Intn(4) == 0
	return t
}

// someTokens: tokens that may be, each with a place of its own.
func someTokens(r *rand.Rand, most int) []api.Token {
	var l []api.Token
	for range r.Intn(most + 1) {
		l = append(l, someToken(r))
	}
	return placed(l...)
}

// somePolicy: a policy that may be.
func somePolicy(r *rand.Rand) api.Policy {
	p := api.Policy{Relative: r.Intn(2) == 0, Depth: 1 + r.Intn(512), Window: 16 + r.Intn(40)}
	if r.Intn(3) == 0 {
		p.Window = 16 + r.Intn(1<<20-15)
	}
	groups := []string{"a", "b", "i", "p", "ul li", "table tbody tr td", "div", "textarea", "h1", "br", "img", "hr", "wbr"}
	r.Shuffle(len(groups), func(i, j int) { groups[i], groups[j] = groups[j], groups[i] })
	for _, g := range groups[:r.Intn(len(groups)+1)] {
		for _, name := range strings.Fields(g) {
			p.Elements = append(p.Elements, element(name, someRules(r)...))
		}
	}
	p.Global = someRules(r)
	p.Schemes = someOf(r, "http", "https", "mailto", "x+y")
	p.Drop = someOf(r, "svg", "math", "select", "template", "embed", "input", "param", "style", "script", "title", "video", "u", "html")
	return p
}

// someRules: rules that may stand in one list.
func someRules(r *rand.Rand) []api.Rule {
	var l []api.Rule
	for _, name := range someOf(r, "href", "src", "cite", "class", "id", "lang", "dir", "title", "width", "start", "value", "data-x") {
		switch kind := api.ValueKind(r.Intn(9)); {
		case among("href src cite", name):
			l = append(l, rule(name, api.ValueLink))
		case kind == api.ValueOneOf:
			l = append(l, rule(name, kind, append([]string{"Left"}, someOf(r, "AUTO", "rtl", "x", "/x", "050%")...)...))
		default:
			l = append(l, rule(name, kind))
		}
	}
	return l
}

// someOf: some of these, in any order.
func someOf(r *rand.Rand, l ...string) []string {
	r.Shuffle(len(l), func(i, j int) { l[i], l[j] = l[j], l[i] })
	return l[:r.Intn(len(l)+1)]
}
