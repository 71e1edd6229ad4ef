package filter_test

import (
	"fmt"
	"math/rand"
	"slices"
	"strings"
	"testing"

	"sieve/api"
	"sieve/filter"
	"sieve/input"
	"sieve/lexer"
	"sieve/policy"
	"sieve/token"
	"sieve/value"
)

// all: what All must answer.
func all(t *testing.T, p api.Policy, l []api.Token, want string) {
	t.Helper()
	if got := show(filter.All(p, l...)); got != want {
		t.Fatalf("All of\n%s:\n%s\nnot\n%s", showTokens(l...), got, want)
	}
}

// P15.3: All with no token.
func TestAllOfNone(t *testing.T) {
	for _, l := range [][]api.Token{nil, {}} {
		all(t, plain(), l, "0")
	}
}

// P15.3: All with a token that may not be, alone, ahead of, among and behind others: nothing but the error.
func TestAllWrong(t *testing.T) {
	good := placed(text("x"), start("a", attr("href", "x"), attr("y", "")), comment("c"), start("svg"), text("y"), start("svg"), end("svg"), text("z"))
	for _, x := range impossible() {
		all(t, plain(), one(x), "70")
		for at := range len(good) + 1 {
			all(t, plain(), slices.Insert(slices.Clone(good), at, x), "70")
			all(t, plain(), slices.Insert(slices.Clone(good), at, x, text("")), "70")
		}
	}
	all(t, plain(), good, show(allOf(plain(), good...)))
}

// P15.3: all that is told of tokens, one behind the other, with their places.
func TestAll(t *testing.T) {
	l := placed(text("x\r"), start("a", attr("onclick", ""), attr("href", "javascript:"), attr("y", "")), doctype(), end("a"), start("svg"), comment("c"), end("svg"), comment("c"), self("u"), start("style"), text("x"))
	left := placed(text("x\n"), start("a"), text(""), end("a"))
	of := []api.Finding{
		{At: place(1), Why: api.WhyAttr, Name: "onclick"}, {At: place(1), Why: api.WhyValue, Name: "href"}, {At: place(1), Why: api.WhyAttr, Name: "y"},
		{At: place(2), Why: api.WhyDoctype}, {At: place(4), Why: api.WhyContent, Name: "svg"}, {At: place(7), Why: api.WhyComment}, {At: place(8), Why: api.WhyElement, Name: "u"}, {At: place(9), Why: api.WhyContent, Name: "style"},
	}
	all(t, plain(), l, show(slices.Delete(left, 2, 3), of, api.OK))
}

// along: a filter and the model must answer the same of tokens, step by step, and All what they answer together.
func along(t *testing.T, p api.Policy, l []api.Token) {
	t.Helper()
	f := made(t, p)
	m := &model{p: p}
	for at, x := range l {
		got, want := show(f.Take(x)), show(m.take(x))
		name, n := f.Dropping()
		if got != want || name != m.name || n != m.n {
			t.Fatalf("%s: token %d of\n%s:\n%s, %q %d\nnot\n%s, %q %d", showPolicy(p), at, showTokens(l...), got, name, n, want, m.name, m.n)
		}
	}
	all(t, p, l, show(allOf(p, l...)))
}

// showPolicy: a policy as a text.
func showPolicy(p api.Policy) string {
	s, _ := policy.Print(p)
	return s
}

// P15.2, P15.3: all short lists of the tokens that matter.
func TestShortLists(t *testing.T) {
	p := plain()
	p.Elements = append(p.Elements, element("hr"))
	p.Drop = []string{"svg", "br", "xmp"}
	p.Window = 20
	parts := []api.Token{
		text("x\x00"), comment("svg"), doctype(), start("svg", attr("svg", "")), end("svg"), start("xmp"), end("xmp"), start("script"), end("script"), self("br"), end("br"), start("hr"), end("hr"), start("u"), end("u"),
		start("a", attr("href", "x"), attr("on", "")), start("a", attr("href", "123456789")), end("a"), text(""), start("svg", attr("A", "")),
	}
	var grow func(l []api.Token, left int)
	grow = func(l []api.Token, left int) {
		if left == 0 {
			along(t, p, placed(l...))
			return
		}
		for _, x := range parts {
			grow(append(l[:len(l):len(l)], x), left-1)
		}
	}
	for n := range 4 {
		grow(nil, n)
	}
}

// P15.2, P15.3: any policies and tokens.
func TestAnyTokens(t *testing.T) {
	r := rand.New(rand.NewSource(1))
	for range 6000 {
		p := somePolicy(r)
		if e := policy.Check(p); e != api.OK {
			t.Fatalf("%v: %d", p, e)
		}
		l := someTokens(r, 30)
		if r.Intn(4) == 0 && len(l) > 0 {
			l[r.Intn(len(l))] = impossible()[r.Intn(len(impossible()))]
		}
		along(t, p, l)
	}
}

// P15.2: tokens that may not be, put in anywhere, change nothing of what is answered of the others.
func TestWrongBetween(t *testing.T) {
	r := rand.New(rand.NewSource(2))
	wrong := impossible()
	for range 1000 {
		p, l := somePolicy(r), someTokens(r, 20)
		f, g := made(t, p), made(t, p)
		for _, x := range l {
			for range r.Intn(3) {
				if got := show(f.Take(wrong[r.Intn(len(wrong))])); got != "70" {
					t.Fatal(got)
				}
			}
			if got, want := show(f.Take(x)), show(g.Take(x)); got != want {
				t.Fatalf("%s:\n%s\nnot\n%s", showTokens(x), got, want)
			}
		}
	}
}

// presets: the policies that are made already, and any others.
func presets(r *rand.Rand) []api.Policy {
	var out []api.Policy
	for _, name := range []string{"basic", "rich", "full"} {
		p, _ := policy.Preset(name)
		out = append(out, p)
	}
	for range 20 {
		out = append(out, somePolicy(r))
	}
	return out
}

// P15.4: what is let through has allowed names and attributes alone, with values that may be, and fits the window; filtered again it is itself.
func TestAgain(t *testing.T) {
	r := rand.New(rand.NewSource(3))
	for range 60 {
		for _, p := range presets(r) {
			left, _, e := filter.All(p, someTokens(r, 60)...)
			if e != api.OK {
				t.Fatal(e)
			}
			for _, x := range left {
				allowedToken(t, p, x)
			}
			all(t, p, left, show(left, nil, api.OK))
		}
	}
}

// allowedToken: what must hold of a token that is let through.
func allowedToken(t *testing.T, p api.Policy, x api.Token) {
	t.Helper()
	if token.Check(x) != api.OK {
		t.Fatalf("a token that may not be: %s", showTokens(x))
	}
	switch x.Kind {
	case api.TokenText:
		if x.Text != input.Clean(x.Text) {
			t.Fatalf("not plain: %q", x.Text)
		}
		return
	case api.TokenComment, api.TokenDoctype:
		t.Fatalf("kind %d", x.Kind)
	}
	if _, ok := policy.Element(p, x.Name); !ok || x.Self || x.Kind == api.TokenStart && runes(x) > p.Window {
		t.Fatalf("not allowed: %s", showTokens(x))
	}
	for _, a := range x.Attrs {
		rule, has := policy.Rule(p, x.Name, a.Name)
		s, may, e := value.Tidy(rule, p.Schemes, p.Relative, a.Value)
		if !has || !may || e != api.OK || s != a.Value {
			t.Fatalf("not allowed: %s: %q", showTokens(x), a.Name)
		}
	}
}

// P15.5: without names of Drop and raw text no text is lost.
func TestNoTextLost(t *testing.T) {
	r := rand.New(rand.NewSource(4))
	for range 3000 {
		p := somePolicy(r)
		p.Drop = nil
		came, went := "", ""
		var l []api.Token
		for _, x := range someTokens(r, 40) {
			if x.Kind == api.TokenStart && among(rawText+" script plaintext", x.Name) {
				continue
			}
			if x.Kind == api.TokenText {
				came += x.Text
			}
			l = append(l, x)
		}
		left, _, e := filter.All(p, l...)
		for _, x := range left {
			went += x.Text
		}
		if e != api.OK || went != input.Clean(came) {
			t.Fatalf("%s:\n%q\nnot\n%q", showTokens(l...), went, input.Clean(came))
		}
	}
}

// through: the lines of the tokens that are let through of some markup, and what is found there.
func through(t *testing.T, p api.Policy, s string) string {
	t.Helper()
	l, e := lexer.Lex([]byte(s), p.Window)
	if e != api.OK {
		t.Fatal(e)
	}
	left, of, e := filter.All(p, l...)
	if e != api.OK {
		t.Fatal(e)
	}
	out, e := token.List(left...)
	if e != api.OK {
		t.Fatal(e)
	}
	for _, f := range of {
		out += fmt.Sprintf("%d:%d %q\n", f.At.Byte, f.Why, f.Name)
	}
	return out
}

// The tokens of markup, as the lexer makes them, by a policy that is made already.
func TestMarkup(t *testing.T) {
	full, _ := policy.Preset("full")
	basic, _ := policy.Preset("basic")
	lines := func(l ...string) string { return strings.Join(append(l, ""), "\n") }
	for _, c := range []struct {
		p    api.Policy
		s    string
		want string
	}{
		{full, "", ""},
		{full, "<script>alert(1)</script>x<SCRIPT>y", lines(`text "x"`, `0:1 "script"`, `26:1 "script"`)},
		{full, "<a href=\"java\tscript:alert(1)\">x</a><a href='/ok' onclick=1>y", lines(`start "a"`, `text "x"`, `end "a"`, `start "a" "href"="/ok"`, `text "y"`, `0:3 "href"`, `36:2 "onclick"`)},
		{full, "<p CLASS=' a  b ' dir=RTL id=1>x<!--c--><!doctype html></p/></q>", lines(`start "p" "class"="a b" "dir"="rtl"`, `text "x"`, `end "p"`, `end "q"`, `0:3 "id"`, `32:4 ""`, `40:5 ""`)},
		{full, "<textarea><b></textarea>", lines(`start "textarea"`, `text "<b>"`, `end "textarea"`)},
		{basic, "<textarea><b></textarea>", lines(`text "<b>"`, `0:0 "textarea"`)},
		{full, "a<svg><svg/><p>b</svg>c</svg>d</svg>e", lines(`text "a"`, `text "d"`, `text "e"`, `1:1 "svg"`)},
		{basic, "a<svg><svg/><p>b</svg>c</svg>d", lines(`text "a"`, `start "p"`, `text "b"`, `text "c"`, `text "d"`, `1:0 "svg"`, `6:0 "svg"`)},
		{full, "<embed src=x><br/>x</br><style>b{}</style><plaintext></plaintext>y", lines(`start "br"`, `text "x"`, `end "br"`, `0:0 "embed"`, `24:1 "style"`, `42:1 "plaintext"`)},
		{basic, "<b class=x>x</b><table><td>y", lines(`start "b"`, `text "x"`, `end "b"`, `text "y"`, `0:2 "class"`, `16:0 "table"`, `23:0 "td"`)},
	} {
		if got := through(t, c.p, c.s); got != c.want {
			t.Errorf("%q:\n%s\nnot\n%s", c.s, got, c.want)
		}
	}
}
