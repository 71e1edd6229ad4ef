package token_test

import (
	"strings"
	"testing"

	"sieve/api"
	"sieve/token"
)

// P7.2: the chapter's examples, and others by hand.
func TestPrintByHand(t *testing.T) {
	for _, c := range []struct {
		token api.Token
		want  string
	}{
		{start("a", attr("href", "x\"y")), `start "a" "href"="x\"y"`}, {doctype(), `doctype`},
		{text("x"), `text "x"`}, {text("a\nb\tc\"d\\e"), `text "a\nb\tc\"d\\e"`}, {text("\\n"), `text "\\n"`}, {text("\r\f\v\x00\x7f\x1b"), "text \"\r\f\v\x00\x7f\x1b\""}, {text("é€\U0001F600\ufffd\u0085"), "text \"é€\U0001F600\ufffd\u0085\""},
		{comment(""), `comment ""`}, {comment(" - "), `comment " - "`}, {comment("\n"), `comment "\n"`},
		{start("a"), `start "a"`}, {self("br"), `start "br" /`}, {self("a", attr("b", ""), attr("c", "/")), `start "a" "b"="" "c"="/" /`}, {start("a", attr("c", "1"), attr("b", "2")), `start "a" "c"="1" "b"="2"`},
		{start("a", attr("=", "="), attr("\"", "'"), attr("\\", "\\\\")), `start "a" "="="=" "\""="'" "\\"="\\\\"`}, {start(`a"\`), `start "a\"\\"`}, {end("p"), `end "p"`}, {end("a<\""), `end "a<\""`}, {start("a\r"), "start \"a\r\""},
	} {
		for _, at := range []api.Place{{}, place} {
			c.token.At = at
			if got, e := token.Print(c.token); got != c.want || e != api.OK {
				t.Errorf("Print(%#v): %s, %d", c.token, got, e)
			}
		}
	}
	if got, e := token.Print(text("")); got != "" || e != api.ErrTokenForm {
		t.Errorf("Print of an empty text: %q, %d", got, e)
	}
}

// P7.2: all kinds with all fields, and all tokens that are hard to quote: Check's error, or the line.
func TestPrint(t *testing.T) {
	try := func(x api.Token) {
		want := ""
		if mayBe(x) {
			want = printed(x)
		}
		got, e := token.Print(x)
		if got != want || e != token.Check(x) || e != errno(mayBe(x)) {
			t.Errorf("Print(%#v): %q, %d", x, got, e)
		}
		if mayBe(x) {
			want += "\n"
		}
		if got, e := token.List(x); got != want || e != errno(mayBe(x)) {
			t.Errorf("List(%#v): %q, %d", x, got, e)
		}
	}
	everyField(try)
	for _, x := range possible() {
		try(x)
	}
}

// P7.2: List of nothing, of many, of a token that may not be at every place.
func TestList(t *testing.T) {
	if got, e := token.List(); got != "" || e != api.OK {
		t.Errorf("List(): %q, %d", got, e)
	}
	if got, e := token.List([]api.Token{}...); got != "" || e != api.OK {
		t.Errorf("List of an empty list: %q, %d", got, e)
	}
	if got, e := token.List(doctype(), self("a"), text("x\n"), end("a")); got != "doctype\nstart \"a\" /\ntext \"x\\n\"\nend \"a\"\n" || e != api.OK {
		t.Errorf("List: %q, %d", got, e)
	}
	all := possible()
	var want strings.Builder
	for _, x := range all {
		want.WriteString(printed(x) + "\n")
	}
	if got, e := token.List(all...); got != want.String() || e != api.OK {
		t.Errorf("List of all: %q, %d", got, e)
	}
	for _, at := range []int{0, 1, len(all) / 2, len(all) - 1} {
		for _, bad := range []api.Token{text(""), end("P"), {Kind: 5}, comment("\xff")} {
			l := append([]api.Token(nil), all...)
			l[at] = bad
			if got, e := token.List(l...); got != "" || e != api.ErrTokenForm {
				t.Errorf("List, %d wrong: %q, %d", at, got, e)
			}
		}
	}
}

// P7.4: equal tokens print the same, and only these.
func TestPrintTellsApart(t *testing.T) {
	all := possible()
	for _, a := range all {
		one, _ := token.Print(a)
		for _, b := range all {
			b.At = place
			two, _ := token.Print(b)
			if (one == two) != token.Equal(a, b) {
				t.Errorf("%q and %q, but Equal: %v", one, two, token.Equal(a, b))
			}
		}
	}
}
