package tag_test

import (
	"slices"
	"strings"
	"testing"

	"sieve/api"
	"sieve/tag"
)

// told: what Names tells, up to so many.
func told(x api.Token, most int) []api.Attr {
	var out []api.Attr
	if most == 0 {
		return out
	}
	for name, value := range tag.Names(x) {
		out = append(out, attr(name, value))
		if len(out) == most {
			break
		}
	}
	return out
}

// P8.6: the names and values as they stand, of whatever token.
func TestNames(t *testing.T) {
	lists := [][]api.Attr{nil, {}, {attr("a", "1")}, {attr("b", "2"), attr("a", "1"), attr("B", "")}, {attr("x", "1"), attr("x", "1"), attr("x", "2")}, {attr("", ""), attr("\xff", "\x00\xe2"), attr("=", "&amp;"), attr("a b", ">")}}
	for _, kind := range []api.TokenKind{api.TokenText, api.TokenStart, api.TokenEnd, api.TokenComment, api.TokenDoctype, -1, 99} {
		for _, l := range lists {
			x := api.Token{Kind: kind, Name: "p", Attrs: l}
			for most := range len(l) + 2 {
				if got := told(x, most); !slices.Equal(got, l[:min(most, len(l))]) {
					t.Errorf("%#v, up to %d: %#v", x, most, got)
				}
			}
		}
	}
	if got := told(api.Token{}, 1); len(got) != 0 {
		t.Errorf("of the zero token: %#v", got)
	}
}

// P8.6, R3: an iterator may be left anywhere, gone over again, and nested; it tells what was there when it was asked for.
func TestNamesAgain(t *testing.T) {
	l := []api.Attr{attr("a", "1"), attr("b", "2"), attr("c", "3")}
	want := slices.Clone(l)
	all := tag.Names(start("p", l...))
	for i := range l {
		l[i] = attr("scrawl", "scrawl")
	}
	for most := range len(l) + 1 {
		n := 0
		for name, value := range all {
			if want[n] != attr(name, value) {
				t.Fatalf("%q, %q", name, value)
			}
			n++
			inner := 0
			for name, value := range all {
				if want[inner] != attr(name, value) {
					t.Fatalf("nested: %q, %q", name, value)
				}
				if inner++; inner == most {
					break
				}
			}
			if n == most {
				break
			}
		}
	}
}

// attrsAre: Attrs of a text.
func attrsAre(t *testing.T, s string, want ...api.Attr) {
	t.Helper()
	if got := tag.Attrs(s); !slices.Equal(got, want) {
		t.Errorf("%q: %#v", s, got)
	}
}

// P8.11: lists by hand.
func TestAttrsByHand(t *testing.T) {
	attrsAre(t, "")
	attrsAre(t, " \t\n\f")
	attrsAre(t, "/")
	attrsAre(t, " / / ")
	attrsAre(t, "b", attr("b", ""))
	attrsAre(t, "B=C", attr("b", "C"))
	attrsAre(t, " b = 'c' D=\"e\"f", attr("b", "c"), attr("d", "e"), attr("f", ""))
	attrsAre(t, "b=c/", attr("b", "c/"))
	attrsAre(t, "b='c'/", attr("b", "c"))
	attrsAre(t, "b=", attr("b", ""))
	attrsAre(t, "b= ", attr("b", ""))
	attrsAre(t, "=", attr("=", ""))
	attrsAre(t, "x=1 X=2 y", attr("x", "1"), attr("y", ""))
	attrsAre(t, "b='>' c=\"<d>\"", attr("b", ">"), attr("c", "<d>"))
	attrsAre(t, "b=&amp;&copy=", attr("b", "&&copy="))
	attrsAre(t, "b='&lt' c=&lt", attr("b", "<"), attr("c", "<"))
	attrsAre(t, "b\x00=\x00 \xff='\xe2\x82'", attr("b\ufffd", "\ufffd"), attr("\ufffd", "\ufffd"))
	attrsAre(t, "b=\xe2\x82", attr("b", "\ufffd"))
	attrsAre(t, "\xf0\x9f\x98", attr("\ufffd", ""))
}

// P8.11: texts that end the tag early, or open a quote and do not close it.
func TestAttrsNone(t *testing.T) {
	for _, s := range []string{">", "b>", "b>c", "b=>", "b=c>", "b='c'>", "b='c'>d='e'", "b c>d", "/>", " >", "b='", "b=\"", "b='c", `b="c`, "b='c\"", `b='>' c="`, "x b = '", "b=\">", "b='c' d=\"e>f", "a b='>'>"} {
		attrsAre(t, s)
	}
}

// P8.11: it is what Whole says, of all short texts.
func TestAttrsIsWhole(t *testing.T) {
	hold := func(s string) {
		var want []api.Attr
		if all := model("a " + s + ">"); all.ended && all.size == len(s)+3 {
			want = all.token.Attrs
		}
		if got := tag.Attrs(s); !slices.Equal(got, want) {
			t.Fatalf("%q: %#v, want %#v", s, got, want)
		}
	}
	texts(5, signs, hold)
	texts(3, pieces, hold)
}

// P8.11: List by hand.
func TestListByHand(t *testing.T) {
	for _, c := range []struct {
		list []api.Attr
		want string
	}{
		{nil, ""}, {[]api.Attr{}, ""},
		{[]api.Attr{attr("b", "")}, `b=""`},
		{[]api.Attr{attr("b", "c"), attr("=", " \"&'<> "), attr("é", "é")}, `b="c" ==" &quot;&amp;'<> " é="é"`},
		{[]api.Attr{attr("=b", "x")}, `=b="x"`},
	} {
		if got, e := tag.List(c.list...); got != c.want || e != api.OK {
			t.Errorf("%#v: %q, %d", c.list, got, e)
		}
	}
	for _, l := range [][]api.Attr{{attr("", "")}, {attr("B", "")}, {attr("b c", "")}, {attr("b", "\x00")}, {attr("b", "\xff")}, {attr("b\xff", "")}, {attr("b=", "")}, {attr("b", "1"), attr("b", "2")}, {attr("b", "1"), attr("c>", "2")}} {
		if got, e := tag.List(l...); got != "" || e != api.ErrTagForm {
			t.Errorf("%#v: %q, %d", l, got, e)
		}
	}
}

// lists: List says what Write says of a start tag, and Attrs reads it back (P8.12).
func lists(t *testing.T, l ...api.Attr) {
	t.Helper()
	got, e := tag.List(l...)
	want, wantE := modelWrite(start("a", l...))
	want = strings.TrimPrefix(strings.TrimSuffix(strings.TrimPrefix(want, "<a"), ">"), " ")
	if got != want || e != wantE {
		t.Fatalf("%d attributes: %.300q, %d; want %.300q, %d", len(l), got, e, want, wantE)
	}
	if e != api.OK {
		return
	}
	if again := tag.Attrs(got); !slices.Equal(again, l[:min(len(l), api.MaxAttrs)]) {
		t.Fatalf("%.300q: %d attributes, want %d", got, len(again), len(l))
	}
}

// P8.11, P8.12: odd pieces as names and values, alone and with others; every byte; very many.
func TestListAndBack(t *testing.T) {
	texts(2, pieces, func(s string) {
		texts(1, pieces, func(u string) {
			lists(t, attr(s, u))
			lists(t, attr("x"+u, s), attr(s, u+s))
			lists(t, attr("=", s), attr("y", u), attr(u, ""))
		})
	})
	for c := range 256 {
		s := string([]byte{byte(c)})
		lists(t, attr(s, s))
		lists(t, attr("k", "v"+s), attr("l"+s, ""))
	}
	for _, n := range []int{api.MaxAttrs - 1, api.MaxAttrs, api.MaxAttrs + 1, 2 * api.MaxAttrs} {
		all, _ := numbered(n)
		lists(t, all...)
	}
	long := strings.Repeat("é&\" >", 1<<13)
	lists(t, attr("b", long), attr("c", ""), attr("d", long))
}
