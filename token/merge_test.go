package token_test

import (
	"strings"
	"testing"

	"sieve/api"
	"sieve/token"
)

// filled: a text with all its other fields filled.
func filled(s, name string, at int) api.Token {
	return api.Token{Kind: api.TokenText, Name: name, Text: s, Attrs: []api.Attr{attr(name, s)}, Self: at%2 == 1, At: api.Place{Byte: at, Line: 1, Col: at}}
}

// merged: what Merge answers, by the chapter's words: runs become one, then empty ones go.
func merged(l []api.Token) []api.Token {
	var runs [][]api.Token
	for _, t := range l {
		last := len(runs) - 1
		if last >= 0 && t.Kind == api.TokenText && runs[last][0].Kind == api.TokenText {
			runs[last] = append(runs[last], t)
			continue
		}
		runs = append(runs, []api.Token{t})
	}
	var out []api.Token
	for _, run := range runs {
		if run[0].Kind != api.TokenText {
			out = append(out, run[0])
			continue
		}
		whole := ""
		for i := len(run) - 1; i >= 0; i-- {
			whole = run[i].Text + whole
		}
		for _, t := range run {
			if t.Text != "" {
				t.Text = whole
				out = append(out, t)
				break
			}
		}
	}
	return out
}

// allTexts: the texts of text tokens, one behind the other.
func allTexts(l []api.Token) string {
	var out strings.Builder
	for _, t := range l {
		if t.Kind == api.TokenText {
			out.WriteString(t.Text)
		}
	}
	return out.String()
}

// lists: all lists of up to n of some tokens.
func lists(n int, tell func([]api.Token)) {
	parts := []api.Token{text("a"), text(""), filled("b", "x", 3), filled("", "y", 4), filled("\xe2\x82", "z", 5), end("p"), self("a", attr("b", "c")), comment(""), {Kind: 9, Text: "t"}}
	var grow func(l []api.Token)
	grow = func(l []api.Token) {
		tell(l)
		if len(l) == n {
			return
		}
		for _, p := range parts {
			grow(append(l[:len(l):len(l)], p))
		}
	}
	grow(nil)
}

// P7.1: the chapter's examples, and others by hand.
func TestMergeByHand(t *testing.T) {
	at := func(x api.Token, n int) api.Token { x.At.Byte = n; return x }
	for _, c := range []struct{ l, want []api.Token }{
		{[]api.Token{text("a"), text("b"), end("p"), text("")}, []api.Token{text("ab"), end("p")}},
		{nil, nil}, {[]api.Token{}, nil}, {[]api.Token{text("")}, nil}, {[]api.Token{text(""), text(""), {}}, nil}, {[]api.Token{text("a")}, []api.Token{text("a")}},
		{[]api.Token{text(""), text("a")}, []api.Token{text("a")}}, {[]api.Token{text("a"), text("")}, []api.Token{text("a")}}, {[]api.Token{text("a"), text(""), text("b")}, []api.Token{text("ab")}},
		{[]api.Token{end("p"), text(""), end("p")}, []api.Token{end("p"), end("p")}}, {[]api.Token{text("a"), end("p"), text("b")}, []api.Token{text("a"), end("p"), text("b")}},
		{[]api.Token{at(text(""), 1), at(text("x"), 2), at(text("y"), 3)}, []api.Token{at(text("xy"), 2)}},
		{[]api.Token{filled("", "k", 1), filled("x", "l", 2), filled("y", "m", 3)}, []api.Token{{Kind: api.TokenText, Name: "l", Text: "xy", Attrs: []api.Attr{attr("l", "x")}, At: api.Place{Byte: 2, Line: 1, Col: 2}}}},
		{[]api.Token{comment("a"), comment("b"), doctype(), doctype()}, []api.Token{comment("a"), comment("b"), doctype(), doctype()}},
		{[]api.Token{text("a"), comment(""), text("b")}, []api.Token{text("a"), comment(""), text("b")}},
		{[]api.Token{text("\xe2\x82"), text("\xac")}, []api.Token{text("€")}}, {[]api.Token{text("\xff"), end("\xff")}, []api.Token{text("\xff"), end("\xff")}},
		{[]api.Token{{Kind: 5, Text: "a"}, {Kind: 5, Text: "b"}, {Kind: -1}}, []api.Token{{Kind: 5, Text: "a"}, {Kind: 5, Text: "b"}, {Kind: -1}}},
	} {
		if got := token.Merge(c.l...); !sameAll(got, c.want) {
			t.Errorf("Merge(%#v): %#v", c.l, got)
		}
	}
}

// P7.1, P7.5: lists of up to four tokens, held against the chapter's words; Merge of Merge is Merge; the texts stay; a list without neighbouring or empty texts stays.
func TestMerge(t *testing.T) {
	lists(4, func(l []api.Token) {
		got := token.Merge(l...)
		if !sameAll(got, merged(l)) {
			t.Fatalf("Merge(%#v): %#v", l, got)
		}
		if again := token.Merge(got...); !sameAll(again, got) {
			t.Fatalf("Merge of Merge(%#v): %#v", l, again)
		}
		if allTexts(got) != allTexts(l) {
			t.Fatalf("Merge(%#v): the texts are %q", l, allTexts(got))
		}
		settled := true
		for i, x := range l {
			isText := x.Kind == api.TokenText
			if isText && (x.Text == "" || i > 0 && l[i-1].Kind == api.TokenText) {
				settled = false
			}
		}
		if settled && !sameAll(got, l) {
			t.Fatalf("Merge(%#v) changed it: %#v", l, got)
		}
	})
}

// P7.1: very many neighbouring texts.
func TestMergeMany(t *testing.T) {
	l := make([]api.Token, 1<<20)
	for i := range l {
		l[i].Text = "xy"[i%2 : i%2+1]
	}
	if got := token.Merge(l...); len(got) != 1 || got[0].Text != strings.Repeat("xy", 1<<19) {
		t.Errorf("%d", len(got))
	}
}
