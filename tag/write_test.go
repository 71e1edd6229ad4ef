package tag_test

import (
	"regexp"
	"strings"
	"testing"
	"unicode/utf8"

	"sieve/api"
	"sieve/tag"
)

// The names that may be, by the chapter's words.
var (
	tagNames  = regexp.MustCompile(`(?s)^[a-z][^\t\n\f /A-Z>\x00]*$`)
	attrNames = regexp.MustCompile(`(?s)^(=|[^\t\n\f /A-Z>\x00=])[^\t\n\f /A-Z>\x00=]*$`)
)

// modelWrite: what Write answers, by the chapter's words.
func modelWrite(t api.Token) (string, api.Errno) {
	if t.Kind != api.TokenStart && t.Kind != api.TokenEnd || !utf8.ValidString(t.Name) || !tagNames.MatchString(t.Name) {
		return "", api.ErrTagForm
	}
	if t.Kind == api.TokenEnd {
		return "</" + t.Name + ">", api.OK
	}
	out := "<" + t.Name
	has := map[string]bool{}
	for _, a := range t.Attrs {
		if has[a.Name] || !utf8.ValidString(a.Name) || !attrNames.MatchString(a.Name) || !utf8.ValidString(a.Value) || strings.Contains(a.Value, "\x00") {
			return "", api.ErrTagForm
		}
		has[a.Name] = true
		out += " " + a.Name + `="` + strings.NewReplacer("&", "&amp;", `"`, "&quot;").Replace(a.Value) + `"`
	}
	if t.Self {
		out += " /"
	}
	return out + ">", api.OK
}

// writes: Write answers what the chapter's words say; and what it tells Whole reads back (P8.8).
func writes(t *testing.T, x api.Token) {
	t.Helper()
	got, e := tag.Write(x)
	want, wantE := modelWrite(x)
	if got != want || e != wantE {
		t.Fatalf("%d, %.100q, %d attributes, %v: %.300q, %d; want %.300q, %d", x.Kind, x.Name, len(x.Attrs), x.Self, got, e, want, wantE)
	}
	if e == api.OK && len(x.Attrs) <= api.MaxAttrs {
		back(t, x, got)
	}
}

// back: P8.8.
func back(t *testing.T, x api.Token, text string) {
	t.Helper()
	x.Text, x.At = "", api.Place{}
	if x.Kind == api.TokenEnd {
		x.Attrs, x.Self = nil, false
	}
	if got := whole(text[1:]); !got.is(answer{x, len(text) - 1, true, api.OK}) {
		t.Fatalf("%.300q: %d, %.100q, %d attributes, %v; %d, %v, %d", text, got.token.Kind, got.token.Name, len(got.token.Attrs), got.token.Self, got.size, got.ended, got.e)
	}
}

// P8.5: tags by hand.
func TestWriteByHand(t *testing.T) {
	for _, c := range []struct {
		token api.Token
		want  string
	}{
		{start("p"), "<p>"}, {self("br"), "<br />"}, {end("p"), "</p>"},
		{start("a", attr("href", "/x?a=1&b=2")), `<a href="/x?a=1&amp;b=2">`},
		{self("a", attr("b", "\"&<"), attr("c", "")), `<a b="&quot;&amp;<" c="" />`},
		{start("a", attr("=b", "'>\n\r\t "), attr("=", "=")), "<a =b=\"'>\n\r\t \" ==\"=\">"},
		{start("a", attr("x", "&amp;&quot;&")), `<a x="&amp;amp;&amp;quot;&amp;">`},
		{start("a<b\"é", attr("\"", "é\ufffd"), attr("é<", "\u00a0\U0001F600")), "<a<b\"é \"=\"é\ufffd\" é<=\"\u00a0\U0001F600\">"},
		{api.Token{Kind: api.TokenEnd, Name: "p", Text: "x\xff", Attrs: []api.Attr{attr("b", "c")}, Self: true, At: api.Place{Byte: 1, Line: 2, Col: 3}}, "</p>"},
		{api.Token{Kind: api.TokenEnd, Name: "p", Attrs: []api.Attr{attr("", "\x00"), attr("A b", "\xff"), attr("", "")}}, "</p>"},
		{api.Token{Kind: api.TokenStart, Name: "p", Text: "x\xff\x00", Attrs: []api.Attr{attr("b", "c")}, At: api.Place{Byte: -1, Line: 2, Col: 3}}, `<p b="c">`},
	} {
		if got, e := tag.Write(c.token); got != c.want || e != api.OK {
			t.Errorf("%#v: %q, %d", c.token, got, e)
		}
		writes(t, c.token)
	}
}

// P8.5: tokens that are no tags, names and values that may not be.
func TestWriteWrong(t *testing.T) {
	wrong := []api.Token{{}, {Text: "x"}, {Name: "p"}, {Kind: api.TokenComment, Name: "p"}, {Kind: api.TokenDoctype, Name: "p"}, {Kind: 5, Name: "p"}, {Kind: -1, Name: "p"}, {Kind: 1<<63 - 1, Name: "p"}, {Kind: -1 << 63, Name: "p"}}
	for _, name := range []string{"", "P", "pP", "1", "-p", "=p", " p", "p ", "p\t", "p\n", "p\f", "p/", "/p", "p>", ">", "p\x00", "\x00", "é", "p\xff", "\xffp", "p\xe2\x82", "p\xed\xa0\x80", "p q", "<p", "\u212a"} {
		wrong = append(wrong, start(name), self(name), end(name), start(name, attr("b", "c")))
	}
	for _, name := range []string{"", "B", "bC", " b", "b ", "b\tc", "b\n", "\f", "b/", "/", "b>c", ">", "b\x00", "\x00", "b=", "b=c", "==", "=b=", "\xff", "b\xe2\x82", "\xed\xa0\x80"} {
		wrong = append(wrong, start("a", attr(name, "v")), self("a", attr("k", ""), attr(name, "")), start("a", attr(name, ""), attr("k", "")))
	}
	for _, value := range []string{"\x00", "a\x00b", "\xff", "a\xe2\x82", "\xed\xa0\x80", "\xc0\xaf", "é\xc3"} {
		wrong = append(wrong, start("a", attr("b", value)), self("a", attr("b", ""), attr("c", value)))
	}
	wrong = append(wrong, start("a", attr("b", "1"), attr("b", "1")), start("a", attr("b", "1"), attr("c", "2"), attr("b", "3")), start("a", attr("=", ""), attr("=", "")))
	for _, x := range wrong {
		if got, e := tag.Write(x); got != "" || e != api.ErrTagForm {
			t.Errorf("%#v: %q, %d", x, got, e)
		}
		if _, e := modelWrite(x); e != api.ErrTagForm {
			t.Errorf("%#v: it may be", x)
		}
	}
}

// P8.5, P8.8: tokens of all kinds with all fields filled and empty, well and badly.
func TestWriteEveryField(t *testing.T) {
	kinds := []api.TokenKind{api.TokenText, api.TokenStart, api.TokenEnd, api.TokenComment, api.TokenDoctype, -1, 5}
	names := []string{"", "p", "P", "é", "a b", "a=b", "a<b", "p\xff", "p\x00"}
	lists := [][]api.Attr{nil, {}, {attr("k", "v")}, {attr("", "v")}, {attr("k", "\xff")}, {attr("k", "\x00")}, {attr("k\xff", "v")}, {attr("k", "1"), attr("l", "2")}, {attr("k", "1"), attr("k", "1")}, {attr("a", ""), attr("K", "")}, {attr("=", "&\"")}, {attr("a=", "")}}
	for _, kind := range kinds {
		for _, name := range names {
			for _, text := range []string{"", "x", "\xff"} {
				for _, l := range lists {
					for _, at := range []api.Place{{}, {Byte: 7, Line: 2, Col: 3}} {
						writes(t, api.Token{Kind: kind, Name: name, Text: text, Attrs: l, At: at})
						writes(t, api.Token{Kind: kind, Name: name, Text: text, Attrs: l, At: at, Self: true})
					}
				}
			}
		}
	}
}

// P8.5, P8.8: every byte at every place of the names and the value.
func TestWriteBytes(t *testing.T) {
	for c := range 256 {
		s := string([]byte{byte(c)})
		for _, name := range []string{s, s + "a", "a" + s, "a" + s + "b", "a" + s + s, "=" + s, "é" + s} {
			writes(t, start(name, attr("k", "v")))
			writes(t, end(name))
			writes(t, start("a", attr(name, "v")))
			writes(t, self("a", attr("k", "v"), attr(name, s)))
			writes(t, start("a", attr("k", name), attr("l", s)))
		}
	}
}

// P8.5, P8.8: odd pieces as names and as values.
func TestWritePieces(t *testing.T) {
	texts(3, pieces, func(s string) {
		writes(t, start("a"+s))
		writes(t, end("a"+s))
		writes(t, self("a", attr(s, s)))
		writes(t, start("a", attr("b", s), attr("c"+s, "")))
	})
}

// P8.8: what Whole tells is told by Write, and read back.
func TestWriteOfWhole(t *testing.T) {
	ways := func(s string) {
		got := whole(s)
		if !got.ended {
			return
		}
		text, e := tag.Write(got.token)
		if e != api.OK {
			t.Fatalf("%q: %#v: %d", s, got.token, e)
		}
		back(t, got.token, text)
	}
	texts(5, signs, func(s string) { ways("a" + s + ">") })
	texts(3, pieces, func(s string) { ways("a " + s + ">") })
	texts(3, pieces, func(s string) { ways("/a b='" + s + "'>") })
}

// P8.5, P8.8: MaxAttrs attributes come back; more of them are written, but read no more.
func TestWriteMost(t *testing.T) {
	for _, n := range []int{api.MaxAttrs - 1, api.MaxAttrs, api.MaxAttrs + 1, 3 * api.MaxAttrs} {
		all, _ := numbered(n)
		writes(t, start("a", all...))
		writes(t, start("a", append(all, all[0])...))
		text, e := tag.Write(self("a", all...))
		if e != api.OK {
			t.Fatalf("%d: %d", n, e)
		}
		back(t, self("a", all[:min(n, api.MaxAttrs)]...), text)
	}
}

// P8.5: long names and values.
func TestWriteLong(t *testing.T) {
	long := strings.Repeat("é\"&", 1<<14)
	writes(t, self("a"+long, attr(long, long), attr("b", strings.Repeat("&", 1<<14))))
	writes(t, end("a"+long))
	writes(t, start("a"+strings.Repeat("x", 1<<20), attr("b", strings.Repeat("\"", 1<<14)), attr("c", strings.Repeat("é>", 1<<20))))
	writes(t, start("a", attr("b", long+"\xff")))
}
