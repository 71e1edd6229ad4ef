package token_test

import (
	"testing"

	"sieve/api"
	"sieve/token"
)

// P7.1: tokens that differ in one field, in an attribute's name, value, number or order; whether they may be or not.
func TestEqual(t *testing.T) {
	base := api.Token{Kind: api.TokenStart, Name: "a", Attrs: []api.Attr{attr("b", "1"), attr("c", "2")}}
	others := map[string]func(*api.Token){
		"kind":             func(x *api.Token) { x.Kind = api.TokenEnd },
		"no kind":          func(x *api.Token) { x.Kind = 77 },
		"name":             func(x *api.Token) { x.Name = "A" },
		"no name":          func(x *api.Token) { x.Name = "" },
		"text":             func(x *api.Token) { x.Text = "x" },
		"text, no UTF-8":   func(x *api.Token) { x.Text = "\xff" },
		"text, U+FFFD":     func(x *api.Token) { x.Text = "\ufffd" },
		"self":             func(x *api.Token) { x.Self = true },
		"no attributes":    func(x *api.Token) { x.Attrs = nil },
		"one less":         func(x *api.Token) { x.Attrs = x.Attrs[:1] },
		"one more":         func(x *api.Token) { x.Attrs = append(x.Attrs, attr("d", "")) },
		"one twice":        func(x *api.Token) { x.Attrs = append(x.Attrs, attr("c", "2")) },
		"order":            func(x *api.Token) { x.Attrs = []api.Attr{attr("c", "2"), attr("b", "1")} },
		"attribute, name":  func(x *api.Token) { x.Attrs = []api.Attr{attr("b", "1"), attr("C", "2")} },
		"attribute, value": func(x *api.Token) { x.Attrs = []api.Attr{attr("b", "1"), attr("c", "")} },
		"values changed":   func(x *api.Token) { x.Attrs = []api.Attr{attr("b", "2"), attr("c", "1")} },
	}
	all := map[string]api.Token{"base": base}
	for what, change := range others {
		x := base
		x.Attrs = append([]api.Attr(nil), base.Attrs...)
		change(&x)
		all[what] = x
	}
	for one, a := range all {
		for two, b := range all {
			b.At = place
			if got := token.Equal(a, b); got != (one == two) {
				t.Errorf("Equal(%s, %s): %v", one, two, got)
			}
		}
	}
}

// P7.1: places are not looked at; nil and empty lists are the same; memory is no matter.
func TestEqualAlike(t *testing.T) {
	a := start("a", attr("b", "1"))
	b := start("a", attr("b", "1"))
	b.At = place
	if !token.Equal(a, b) || !token.Equal(b, a) || !token.Equal(a, a) {
		t.Error("not the same")
	}
	c, d := start("a"), start("a")
	c.Attrs, d.Attrs = nil, make([]api.Attr, 0, 5)
	if !token.Equal(c, d) || !token.Equal(d, c) {
		t.Error("nil and empty are not the same")
	}
	if !token.Equal(api.Token{}, api.Token{At: place}) || !token.Equal(text("\xff"), text("\xff")) || !token.Equal(api.Token{Kind: -3}, api.Token{Kind: -3}) {
		t.Error("tokens that may not be are not the same")
	}
	if !token.Equal(start("a"), api.Token{Kind: api.TokenStart, Name: string([]byte{'a'})}) {
		t.Error("two names of one text are not the same")
	}
}

// P7.1: the first attribute of a name, of any token; none.
func TestAttr(t *testing.T) {
	x := start("a", attr("b", "1"), attr("c", ""), attr("b", "2"), attr("", "none"), attr("\xff", "w"), attr("É", "e"))
	for _, c := range []struct {
		name, value string
		ok          bool
	}{{"b", "1", true}, {"c", "", true}, {"", "none", true}, {"\xff", "w", true}, {"É", "e", true}, {"d", "", false}, {"B", "", false}, {"a", "", false}, {"é", "", false}, {"bc", "", false}} {
		if value, ok := token.Attr(x, c.name); value != c.value || ok != c.ok {
			t.Errorf("Attr(%q): %q, %v", c.name, value, ok)
		}
	}
	for _, x := range []api.Token{{}, start("a"), text("x"), {Kind: -1}, {Kind: api.TokenStart, Attrs: []api.Attr{}}} {
		for _, name := range []string{"", "a", "x"} {
			if value, ok := token.Attr(x, name); value != "" || ok {
				t.Errorf("Attr(%q) of none: %q, %v", name, value, ok)
			}
		}
	}
	x.Kind = api.TokenDoctype // of a token that may not be, too
	if value, ok := token.Attr(x, "b"); value != "1" || !ok {
		t.Errorf("Attr of a doctype: %q, %v", value, ok)
	}
}
