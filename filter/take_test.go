package filter_test

import (
	"strings"
	"testing"

	"sieve/api"
	"sieve/filter"
)

// made: a filter of a policy that may be.
func made(t *testing.T, p api.Policy) *filter.Filter {
	t.Helper()
	f, e := filter.New(p)
	if f == nil || e != api.OK {
		t.Fatalf("New: %v, %d", f, e)
	}
	return f
}

// takes: what a filter must answer of a token, whose place is put into what it should answer.
func takes(t *testing.T, f *filter.Filter, x api.Token, left []api.Token, of ...api.Finding) {
	t.Helper()
	x.At = place(len(x.Name) + 5)
	var l []api.Token
	for _, y := range left {
		y.At = x.At
		l = append(l, y)
	}
	var all []api.Finding
	for _, y := range of {
		y.At = x.At
		all = append(all, y)
	}
	got, gotOf, e := f.Take(x)
	if is, want := show(got, gotOf, e), show(l, all, api.OK); is != want {
		t.Errorf("%s:\n%s\nnot\n%s", showTokens(x), is, want)
	}
}

// drops: what a filter must say that it drops.
func drops(t *testing.T, f *filter.Filter, name string, n int) {
	t.Helper()
	if x, is := f.Dropping(); x != name || is != n {
		t.Errorf("Dropping: %q, %d, not %q, %d", x, is, name, n)
	}
}

// one: a list of one token.
func one(t api.Token) []api.Token { return []api.Token{t} }

// The chapter's examples.
func TestExamples(t *testing.T) {
	f := made(t, plain())
	takes(t, f, start("a", attr("href", "x"), attr("onclick", "y")), one(start("a", attr("href", "x"))), found(api.WhyAttr, "onclick"))
	takes(t, f, start("u"), nil, found(api.WhyElement, "u"))
	takes(t, f, end("u"), nil)

	takes(t, f, start("svg"), nil, found(api.WhyContent, "svg"))
	for _, x := range []api.Token{text("x"), start("svg"), end("svg"), text("y"), end("svg")} {
		takes(t, f, x, nil)
	}
	takes(t, f, text("z"), one(text("z")))

	takes(t, f, start("style"), nil, found(api.WhyContent, "style"))
	drops(t, f, "style", 1)
	takes(t, f, end("style"), nil)
	takes(t, f, start("br"), nil, found(api.WhyElement, "br"))
	takes(t, f, comment("x"), nil, found(api.WhyComment, ""))
}

// P15.2: comments and doctypes.
func TestComment(t *testing.T) {
	f := made(t, plain())
	for _, s := range append([]string{"", "a", "svg", "-->"}, someTexts...) {
		takes(t, f, comment(s), nil, found(api.WhyComment, ""))
	}
	takes(t, f, doctype(), nil, found(api.WhyDoctype, ""))
	drops(t, f, "", 0)
}

// P15.2: texts, which are made plain.
func TestText(t *testing.T) {
	f := made(t, plain())
	for s, want := range map[string]string{
		"x": "x", " \n\t\f ": " \n\t\f ", "a\r\nb\rc": "a\n\nb\nc", "\r": "\n", "\x00": "\ufffd", "a\x01\x08\x0b\x0e\x1fz": "a\ufffd\ufffd\ufffd\ufffd\ufffdz",
		"\x7f\u0080\u0085\u009f\u00a0": "\ufffd\ufffd\ufffd\ufffd\u00a0", "\ufdcf\ufdd0\ufdef\ufdf0": "\ufdcf\ufffd\ufffd\ufdf0", "\ufffd\ufffe\uffff": "\ufffd\ufffd\ufffd", "\U0001fffd\U0001fffe\U0010ffff": "\U0001fffd\ufffd\ufffd",
		"<b>&amp;\"'": "<b>&amp;\"'", "é€\U0001F600": "é€\U0001F600", "svg": "svg", strings.Repeat("x", 5000): strings.Repeat("x", 5000), // longer than the window, which is not asked of texts
	} {
		takes(t, f, text(s), one(text(want)))
	}
}

// P15.2: end tags, of what is allowed and what is not; void ones and those of dropped names too.
func TestEnd(t *testing.T) {
	p := plain()
	p.Elements = append(p.Elements, element("br"))
	f := made(t, p)
	for range 2 {
		for _, name := range []string{"a", "b", "br"} {
			takes(t, f, end(name), one(end(name)))
		}
		for _, name := range append(strings.Fields("u svg script style plaintext p img hr textarea title h1"), "a<b", "my-tag", "bé") {
			takes(t, f, end(name), nil)
		}
		drops(t, f, "", 0)
	}
}

// P15.2: start tags that are not allowed, and drop nothing but themselves.
func TestStartRefused(t *testing.T) {
	p := plain()
	p.Drop = append(p.Drop, "br", "img", "embed", "input")
	f := made(t, p)
	for _, name := range append(strings.Fields(voids+" u p div textarea title math select template video h1 html keygen param aa sv svgx"), "a<b", "my-tag", "bé", "svg:a") {
		for _, x := range []api.Token{start(name), self(name), start(name, attr("href", "x"), attr("onclick", "y"), attr("href2", "javascript:"))} {
			takes(t, f, x, nil, found(api.WhyElement, name))
			drops(t, f, "", 0)
		}
	}
	takes(t, f, text("x"), one(text("x")))
}

// P15.2: a name longer than the window is not looked at as a tag's length, if it is not allowed.
func TestLongName(t *testing.T) {
	p := plain()
	p.Window = 16
	f := made(t, p)
	long := strings.Repeat("x", 100)
	takes(t, f, start(long), nil, found(api.WhyElement, long))
	takes(t, f, end(long), nil)
}

// P15.2: attributes with a rule of the element, with one for all elements, with both, with none.
func TestAttrs(t *testing.T) {
	p := api.Policy{
		Elements: []api.Element{element("a", rule("href", api.ValueLink), rule("dir", api.ValueOneOf, "up"), rule("id", api.ValueNumber)), element("b"), element("p", rule("title", api.ValueName))},
		Global:   []api.Rule{rule("dir", api.ValueOneOf, "Ltr", "rtl"), rule("class", api.ValueTokens), rule("title", api.ValueAny)},
		Schemes:  []string{"https"}, Depth: 9, Window: 4096,
	}
	f := made(t, p)
	takes(t, f, start("a", attr("href", "https:x"), attr("dir", "UP"), attr("id", "007"), attr("class", " x  y "), attr("title", " t ")),
		one(start("a", attr("href", "https:x"), attr("dir", "up"), attr("id", "7"), attr("class", "x y"), attr("title", " t "))))
	takes(t, f, start("a", attr("dir", "ltr")), one(start("a")), found(api.WhyValue, "dir"))
	takes(t, f, start("b", attr("dir", "LTR")), one(start("b", attr("dir", "ltr"))))
	takes(t, f, start("b", attr("dir", "up")), one(start("b")), found(api.WhyValue, "dir"))
	takes(t, f, start("b", attr("href", "https:x"), attr("id", "7")), one(start("b")), found(api.WhyAttr, "href"), found(api.WhyAttr, "id"))
	takes(t, f, start("p", attr("title", " t ")), one(start("p")), found(api.WhyValue, "title"))
	takes(t, f, start("p", attr("title", "t"), attr("id", "7")), one(start("p", attr("title", "t"))), found(api.WhyAttr, "id"))
	takes(t, f, start("a", attr("=", ""), attr("=href", "https:x"), attr("<", ""), attr("é", ""), attr("hre", ""), attr("hreff", "")), one(start("a")),
		found(api.WhyAttr, "="), found(api.WhyAttr, "=href"), found(api.WhyAttr, "<"), found(api.WhyAttr, "é"), found(api.WhyAttr, "hre"), found(api.WhyAttr, "hreff"))
	// Both stay in their order, the findings in theirs.
	takes(t, f, start("a", attr("x", ""), attr("title", "1"), attr("href", "x"), attr("class", "2"), attr("y", ""), attr("id", "z"), attr("dir", "up")),
		one(start("a", attr("title", "1"), attr("class", "2"), attr("dir", "up"))),
		found(api.WhyAttr, "x"), found(api.WhyValue, "href"), found(api.WhyAttr, "y"), found(api.WhyValue, "id"))
}

// P15.2: values by the kind of the rule: as they are, written otherwise, and such as may not be.
func TestValues(t *testing.T) {
	p := plain()
	p.Elements = []api.Element{element("b", rule("any", 0), rule("tokens", 1), rule("name", 2), rule("number", 3), rule("length", 4), rule("link", 5), rule("lang", 6), rule("words", 7, "Left", "right"), rule("flag", 8))}
	p.Schemes = []string{"https", "mailto"}
	type values map[string]string
	for name, l := range map[string]values{
		"any":    {"": "", " x ": " x ", "a\r\x00b": "a\n\ufffdb", "javascript:x": "javascript:x"},
		"tokens": {"": "", " a\tb  a ": "a b a", "\x00": "\ufffd"},
		"name":   {"a:b.c-1": "a:b.c-1", "1a": "-", "": "-"},
		"number": {"007": "7", "0": "0", "000": "0", "-1": "-", "": "-", "1234567890": "-"},
		"length": {"050%": "50%", "5": "5", "5%%": "-", "%": "-"},
		"link":   {"/a b": "/a b", " x ": "x", "HTTPS://x": "HTTPS://x", "java\nscript:x": "-", "javascript:x": "-", "http:x": "-", "data:x": "-", "mail\tto:x": "mailto:x", "": ""},
		"lang":   {"de-CH-1996": "de-CH-1996", "de-": "-", "": "-"},
		"words":  {"LEFT": "left", "right": "right", "middle": "-", "": "-", " left": "-"},
		"flag":   {"": "", "flag": "", "\x00": ""},
	} {
		f := made(t, p)
		for v, want := range l {
			if want == "-" {
				takes(t, f, start("b", attr(name, v)), one(start("b")), found(api.WhyValue, name))
			} else {
				takes(t, f, start("b", attr(name, v)), one(start("b", attr(name, want))))
			}
		}
	}
}

// P15.2: links by the policy's schemes, and by whether it has relative ones.
func TestLinks(t *testing.T) {
	for _, schemes := range [][]string{nil, {"https"}, {"http", "https"}} {
		for _, relative := range []bool{false, true} {
			p := plain()
			p.Schemes, p.Relative = schemes, relative
			f := made(t, p)
			for v, may := range map[string]bool{"x": relative, "/x": relative, "#": relative, "": relative, "//h": relative, "https:x": len(schemes) > 0, "http:x": len(schemes) > 1, "ftp:x": false, "javascript:x": false} {
				if may {
					takes(t, f, start("a", attr("href", v)), one(start("a", attr("href", v))))
				} else {
					takes(t, f, start("a", attr("href", v)), one(start("a")), found(api.WhyValue, "href"))
				}
			}
		}
	}
}

// P15.2: a tag that ends with /> is let through as one that does not.
func TestSelf(t *testing.T) {
	p := plain()
	p.Elements = append(p.Elements, element("br"))
	f := made(t, p)
	takes(t, f, self("br"), one(start("br")))
	takes(t, f, self("b"), one(start("b")))
	takes(t, f, self("a", attr("href", "x"), attr("y", "")), one(start("a", attr("href", "x"))), found(api.WhyAttr, "y"))
	takes(t, f, self("u"), nil, found(api.WhyElement, "u"))
	takes(t, f, self("svg"), nil, found(api.WhyContent, "svg"))
	drops(t, f, "svg", 1)
	takes(t, f, self("svg"), nil)
	drops(t, f, "svg", 2)
}

// P15.2: tokens that may not be: nothing changes, in whichever state the filter is.
func TestWrongTokens(t *testing.T) {
	f := made(t, plain())
	wrong := func() {
		t.Helper()
		for _, x := range impossible() {
			x.At = place(3)
			if l, of, e := f.Take(x); len(l) > 0 || len(of) > 0 || e != api.ErrTokenForm {
				t.Errorf("%s: %s", showTokens(x), show(l, of, e))
			}
		}
	}
	wrong()
	drops(t, f, "", 0)
	takes(t, f, start("svg"), nil, found(api.WhyContent, "svg"))
	wrong()
	drops(t, f, "svg", 1)
	takes(t, f, start("svg"), nil)
	wrong()
	drops(t, f, "svg", 2)
	takes(t, f, end("svg"), nil)
	takes(t, f, end("svg"), nil)
	wrong()
	drops(t, f, "", 0)
	takes(t, f, text("x"), one(text("x")))
}
