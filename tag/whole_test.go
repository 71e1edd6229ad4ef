package tag_test

import (
	"fmt"
	"strings"
	"testing"

	"sieve/api"
	"sieve/tag"
)

// tells: Whole tells a tag of all of a text but so many bytes.
func tells(t *testing.T, s string, behind int, want api.Token) {
	t.Helper()
	if got := whole(s); !got.is(answer{want, len(s) - behind, true, api.OK}) {
		t.Errorf("%.200q: %.200q, %d attributes, %v; %d, %v, %d", s, got.token.Name, len(got.token.Attrs), got.token.Self, got.size, got.ended, got.e)
		if len(s) < 200 {
			t.Logf("%#v", got.token)
		}
	}
}

// P8.4: the chapter's examples.
func TestWholeExamples(t *testing.T) {
	tells(t, "A HREF=x/y title='a&quot;b' x>z", 1, start("a", attr("href", "x/y"), attr("title", `a"b`), attr("x", "")))
	tells(t, "br/>", 0, self("br"))
	tells(t, "br / >", 0, start("br"))
	tells(t, "a/b=c/>", 0, start("a", attr("b", "c/")))
	tells(t, "a =b=c>", 0, start("a", attr("=b", "c")))
	tells(t, "/P class=x>", 0, end("p"))
	tells(t, "a x=1 X=2>", 0, start("a", attr("x", "1")))
	tells(t, `a b="c"d>`, 0, start("a", attr("b", "c"), attr("d", "")))
	if got := whole("a x="); !got.is(answer{size: 4}) {
		t.Errorf("not ended: %#v", got)
	}
	if got := whole("1>"); !got.is(answer{e: api.ErrTagForm}) {
		t.Errorf("no tag: %#v", got)
	}
}

// P8.4: the names of tags.
func TestTagNames(t *testing.T) {
	tells(t, "p>", 0, start("p"))
	tells(t, "/p>", 0, end("p"))
	tells(t, "BlockQuote>", 0, start("blockquote"))
	tells(t, "/H1>", 0, end("h1"))
	tells(t, "my-Tag:X.1_>", 0, start("my-tag:x.1_"))
	tells(t, "aÉİ\u212a\U0001F600>", 0, start("aÉİ\u212a\U0001F600"))
	tells(t, "a\x00b\x00>", 0, start("a\ufffdb\ufffd"))
	tells(t, "a\xff\xfe>", 0, start("a\ufffd\ufffd"))
	tells(t, "a\xe2\x82>", 0, start("a\ufffd"))
	tells(t, "a\xf0\x80\x80>", 0, start("a\ufffd\ufffd\ufffd"))
	tells(t, "a\xed\xa0\x80b>", 0, start("a\ufffd\ufffd\ufffdb"))
	tells(t, "/a\xc3/>", 0, end("a\ufffd"))
	tells(t, "a\r\n>", 0, start("a\r"))
	tells(t, "a<b>", 0, start("a<b"))
	tells(t, `a"b'c=d&amp;>`, 0, start(`a"b'c=d&amp;`))
	tells(t, "a\u00a0\u0085\v>", 0, start("a\u00a0\u0085\v"))
	for _, blank := range []string{"\t", "\n", "\f", " ", "/ ", " /\t/\n"} {
		tells(t, "a"+blank+">", 0, start("a"))
		tells(t, "a"+blank+"b>", 0, start("a", attr("b", "")))
	}
}

// P8.4: the names of attributes.
func TestAttributeNames(t *testing.T) {
	tells(t, "a b>", 0, start("a", attr("b", "")))
	tells(t, "a B=1 cD=2>", 0, start("a", attr("b", "1"), attr("cd", "2")))
	tells(t, "a É=1 é=2 \u212a=3>", 0, start("a", attr("É", "1"), attr("é", "2"), attr("\u212a", "3")))
	tells(t, "a \x00=1 b\x00>", 0, start("a", attr("\ufffd", "1"), attr("b\ufffd", "")))
	tells(t, "a \x00=1 \ufffd=2 \xff=3 \xe2\x82=4>", 0, start("a", attr("\ufffd", "1")))
	tells(t, "a \xff\xe2\x82=1 \xed\xa0=2>", 0, start("a", attr("\ufffd\ufffd", "1")))
	tells(t, "a =>", 0, start("a", attr("=", "")))
	tells(t, "a ==>", 0, start("a", attr("=", "")))
	tells(t, "a ===>", 0, start("a", attr("=", "=")))
	tells(t, "a = =x>", 0, start("a", attr("=", "x")))
	tells(t, "a =b =c>", 0, start("a", attr("=b", "c")))
	tells(t, "a/=/>", 0, self("a", attr("=", "")))
	tells(t, "a b= =c>", 0, start("a", attr("b", "=c")))
	tells(t, "a b =c =d>", 0, start("a", attr("b", "c"), attr("=d", "")))
	tells(t, `a "=1 '='2' <=3 "b">`, 0, start("a", attr(`"`, "1"), attr("'", "2"), attr("<", "3"), attr(`"b"`, "")))
	tells(t, "a &amp;=1 x&lt>", 0, start("a", attr("&amp;", "1"), attr("x&lt", "")))
	tells(t, "a b\r=1>", 0, start("a", attr("b\r", "1")))
	tells(t, "a b c\td\ne\ff/g>", 0, start("a", attr("b", ""), attr("c", ""), attr("d", ""), attr("e", ""), attr("f", ""), attr("g", "")))
}

// P8.4: an attribute that the tag has already is left out, whatever its value is and however it ends.
func TestAttributesTwice(t *testing.T) {
	tells(t, "a x=1 x=2>", 0, start("a", attr("x", "1")))
	tells(t, "a x x=2>", 0, start("a", attr("x", "")))
	tells(t, "a x=1 x>", 0, start("a", attr("x", "1")))
	tells(t, "a X=1 x=2 X=3>", 0, start("a", attr("x", "1")))
	tells(t, "a x='' y=1 x='>' z=2 Y=\"/>\" w/>", 0, self("a", attr("x", ""), attr("y", "1"), attr("z", "2"), attr("w", "")))
	tells(t, "a x=1 x = &amp; y=&amp;>", 0, start("a", attr("x", "1"), attr("y", "&")))
	tells(t, "a =x=1 =X=2 x=3>", 0, start("a", attr("=x", "1"), attr("x", "3")))
	tells(t, "a K=1 \u212a=2 k=3>", 0, start("a", attr("k", "1"), attr("\u212a", "2")))
	tells(t, "a a=1 b=2 a=3 b=4 c=5 a=6 c=7>", 0, start("a", attr("a", "1"), attr("b", "2"), attr("c", "5")))
}

// P8.4: values, in quotes of both kinds and without any.
func TestValues(t *testing.T) {
	tells(t, `a b="c">`, 0, start("a", attr("b", "c")))
	tells(t, "a b='c'>", 0, start("a", attr("b", "c")))
	tells(t, "a b=c>", 0, start("a", attr("b", "c")))
	tells(t, `a b="">`, 0, start("a", attr("b", "")))
	tells(t, "a b=''>", 0, start("a", attr("b", "")))
	tells(t, "a b=>", 0, start("a", attr("b", "")))
	tells(t, "a b= >", 0, start("a", attr("b", "")))
	tells(t, "a b=>c>", 2, start("a", attr("b", "")))
	tells(t, `a b="'" c='"'>`, 0, start("a", attr("b", "'"), attr("c", `"`)))
	tells(t, "a b=\" \t\n\f\" c='  '>", 0, start("a", attr("b", " \t\n\f"), attr("c", "  ")))
	tells(t, `a b=">" c='/>' d="<e f=g>">`, 0, start("a", attr("b", ">"), attr("c", "/>"), attr("d", "<e f=g>")))
	tells(t, "a b=c'd\"e<f=g/h`>", 0, start("a", attr("b", "c'd\"e<f=g/h`")))
	tells(t, "a b=c\"d e\">", 0, start("a", attr("b", "c\"d"), attr(`e"`, "")))
	tells(t, "a b=/>", 0, start("a", attr("b", "/")))
	tells(t, "a b=/ >", 0, start("a", attr("b", "/")))
	tells(t, "a b= / c>", 0, start("a", attr("b", "/"), attr("c", "")))
	tells(t, "a b=c\td=e\nf=g\fh=i>", 0, start("a", attr("b", "c"), attr("d", "e"), attr("f", "g"), attr("h", "i")))
	tells(t, "a b=ÉX c='Éé' d=\"\U0001F600\">", 0, start("a", attr("b", "ÉX"), attr("c", "Éé"), attr("d", "\U0001F600")))
	tells(t, "a b=\x00 c='\x00' d=\"x\x00y\">", 0, start("a", attr("b", "\ufffd"), attr("c", "\ufffd"), attr("d", "x\ufffdy")))
	tells(t, "a b=\xff c='\xe2\x82' d=\"\xed\xa0\x80\">", 0, start("a", attr("b", "\ufffd"), attr("c", "\ufffd"), attr("d", "\ufffd\ufffd\ufffd")))
	tells(t, "a b=c\xe2\x82>", 0, start("a", attr("b", "c\ufffd")))
	tells(t, "a b=c\r d='\r\n'>", 0, start("a", attr("b", "c\r"), attr("d", "\r\n")))
	tells(t, "a b=\u00a0c\u2028>", 0, start("a", attr("b", "\u00a0c\u2028")))
	tells(t, `a b="c"d="e"/f='g'>`, 0, start("a", attr("b", "c"), attr("d", "e"), attr("f", "g")))
	tells(t, `a b="c"="d">`, 0, start("a", attr("b", "c"), attr(`="d"`, "")))
}

// P8.4: blanks of every kind, and many of them, ahead of = and behind it; a / there is no blank.
func TestBlanksAroundEquals(t *testing.T) {
	for _, ahead := range []string{"", " ", "\t", "\n", "\f", " \t\n\f ", "\n\n"} {
		for _, behind := range []string{"", " ", "\t", "\n", "\f", " \t\n\f ", "\f\f"} {
			for _, v := range []string{"c", "'c'", `"c"`} {
				tells(t, "a b"+ahead+"="+behind+v+">", 0, start("a", attr("b", "c")))
				tells(t, "a b"+ahead+"="+behind+v+" d"+ahead+">", 0, start("a", attr("b", "c"), attr("d", "")))
			}
			tells(t, "a b"+ahead+"="+behind+">", 0, start("a", attr("b", "")))
			tells(t, "a b"+ahead+"/="+behind+"c>", 0, slashed(behind))
			tells(t, "a b"+ahead+"="+behind+"/c>", 0, start("a", attr("b", "/c")))
		}
	}
	tells(t, "a b\v=c>", 0, start("a", attr("b\v", "c")))
	tells(t, "a b\u00a0=\u00a0c>", 0, start("a", attr("b\u00a0", "\u00a0c")))
}

// slashed: the tag of "a b/=c>", with blanks behind the =: this begins a name.
func slashed(blanks string) api.Token {
	if blanks == "" {
		return start("a", attr("b", ""), attr("=c", ""))
	}
	return start("a", attr("b", ""), attr("=", ""), attr("c", ""))
}

// P8.4: / between attributes, in values, directly ahead of >, with a blank between.
func TestSelf(t *testing.T) {
	tells(t, "br//>", 0, self("br"))
	tells(t, "br />", 0, self("br"))
	tells(t, "br/ />", 0, self("br"))
	tells(t, "br/\n>", 0, start("br"))
	tells(t, "br// >", 0, start("br"))
	tells(t, "a/b>", 0, start("a", attr("b", "")))
	tells(t, "a/b/>", 0, self("a", attr("b", "")))
	tells(t, "a b/>", 0, self("a", attr("b", "")))
	tells(t, "a b />", 0, self("a", attr("b", "")))
	tells(t, "a b/c//d / e>", 0, start("a", attr("b", ""), attr("c", ""), attr("d", ""), attr("e", "")))
	tells(t, `a b="c"/>`, 0, self("a", attr("b", "c")))
	tells(t, `a b='c'//>`, 0, self("a", attr("b", "c")))
	tells(t, `a b='c'/ >`, 0, start("a", attr("b", "c")))
	tells(t, "a b=c/>", 0, start("a", attr("b", "c/")))
	tells(t, "a b=c//>", 0, start("a", attr("b", "c//")))
	tells(t, "a b=c />", 0, self("a", attr("b", "c")))
	tells(t, `a b="/">`, 0, start("a", attr("b", "/")))
	tells(t, `a b="/"/>`, 0, self("a", attr("b", "/")))
	tells(t, "a b=''/c>", 0, start("a", attr("b", ""), attr("c", "")))
	tells(t, "a />/>", 2, self("a"))
}

// P8.4: references in values, as charref has them in attributes; none in names.
func TestReferences(t *testing.T) {
	tells(t, `a b="&amp;&lt;&quot;&#65;&#x42;">`, 0, start("a", attr("b", `&<"AB`)))
	tells(t, "a b=&amp;&lt;&#65;c>", 0, start("a", attr("b", "&<Ac")))
	tells(t, "a b='&copy' c=&copy>", 0, start("a", attr("b", "©"), attr("c", "©")))
	tells(t, "a b='&copy=1' c=&copy=1 d=\"&copyx\" e=&copy1 f='&copy;=1'>", 0, start("a", attr("b", "&copy=1"), attr("c", "&copy=1"), attr("d", "&copyx"), attr("e", "&copy1"), attr("f", "©=1")))
	tells(t, "a b='&notit;' c='&notin;' d='&not it' e=&not/>", 0, start("a", attr("b", "&notit;"), attr("c", "∉"), attr("d", "¬ it"), attr("e", "¬/")))
	tells(t, "a b='&#0;&#x80;&#xD800;&#x110000;&#;' c=&#65>", 0, start("a", attr("b", "\ufffd€\ufffd\ufffd&#;"), attr("c", "A")))
	tells(t, "a b=& c='&' d=\"&&amp;\" e=&;>", 0, start("a", attr("b", "&"), attr("c", "&"), attr("d", "&&"), attr("e", "&;")))
	tells(t, "a b='&quot;>' c=&gt;&#62;d>", 0, start("a", attr("b", `">`), attr("c", ">>d")))
	tells(t, "a b=&#32;c d='&#39;'>", 0, start("a", attr("b", " c"), attr("d", "'")))
	tells(t, "a b=&amp;amp;>", 0, start("a", attr("b", "&amp;")))
	tells(t, "a b='&l\x00t;' c='&#\x0065;' d=&am\xffp;>", 0, start("a", attr("b", "&l\ufffdt;"), attr("c", "&#\ufffd65;"), attr("d", "&am\ufffdp;")))
	tells(t, "a b=&unknown; c='&AMP;'>", 0, start("a", attr("b", "&unknown;"), attr("c", "&")))
	tells(t, "/a b='&amp;>'>", 0, end("a"))
}

// P8.4: end tags: quotes hold in them too, but nothing is told of it.
func TestEndTags(t *testing.T) {
	for _, s := range []string{"/a>", "/A >", "/a/>", "/a />", "/a b>", "/a b=c>", "/a b='>'>", `/a b=">" c/>`, "/a b=>", "/a =>", "/a x=1 x=2/>", "/a b='c'/ / >", "/a //>"} {
		tells(t, s, 0, end("a"))
		tells(t, s+">", 1, end("a"))
	}
	for _, s := range []string{"/a", "/a ", "/a/", "/a b='>", `/a b=">`, "/a b=", "/a b='>' "} {
		if got := whole(s); !got.is(answer{size: len(s)}) {
			t.Errorf("%q: %#v", s, got)
		}
	}
}

// P8.4: tags that do not end in the text: no beginning of a tag is one.
func TestWholeOpen(t *testing.T) {
	for _, s := range []string{
		"A HREF=x/y title='a&quot;b' x>", "br/>", "a/b=c/>", "a = b \t= 'c>d' e=\">\"f = g / />", "/P class='>' x=1/>", "a\xe2\x82\x00é b\xff=\xf0\x9f\x98>", "a b=&amp >",
	} {
		for n := range len(s) {
			want := answer{size: n}
			if n == 0 || s[:n] == "/" {
				want = answer{e: api.ErrTagForm}
			}
			if got := whole(s[:n]); !got.is(want) {
				t.Errorf("%q: %#v", s[:n], got)
			}
		}
		if got := whole(s); !got.ended || got.size != len(s) {
			t.Errorf("%q: %#v", s, got)
		}
	}
}

// P8.4: what begins no tag is refused, with nothing beside.
func TestWholeRefused(t *testing.T) {
	for _, s := range []string{"", "/", "//", "/>", ">", " a>", "1a>", "/1>", "/ a>", "!--x-->", "?x>", "<a>", "\x00>", "\xff>", "é>", "/é>", "=>"} {
		if got := whole(s); !got.is(answer{e: api.ErrTagForm}) {
			t.Errorf("%q: %#v", s, got)
		}
	}
}

// holds: what Whole answers is what the chapter's words say; so do runes put one by one (P8.7); it is tidy (P8.10).
func holds(t *testing.T, s string) {
	t.Helper()
	got, want := whole(s), model(s)
	if !got.is(want) {
		t.Fatalf("%.200q: %.999s, want %.999s", s, fmt.Sprintf("%#v", got), fmt.Sprintf("%#v", want))
	}
	tidy(t, s, got.token)
	runeByRune(t, s, got)
}

// tidy: P8.10.
func tidy(t *testing.T, s string, x api.Token) {
	t.Helper()
	found := map[string]bool{}
	for i := range len(x.Attrs) + 1 {
		name := x.Name
		if i > 0 {
			name = x.Attrs[i-1].Name
			if found[name] || name == "" {
				t.Fatalf("%q: %#v: %q", s, x, name)
			}
			found[name] = true
		}
		if strings.ContainsAny(name, "ABCDEFGHIJKLMNOPQRSTUVWXYZ\t\n\f >") {
			t.Fatalf("%q: %#v: %q", s, x, name)
		}
	}
	if x.Kind != api.TokenText && x.Name == "" {
		t.Fatalf("%q: %#v", s, x)
	}
}

// P8.4, P8.7, P8.10: all short texts behind the names of a start tag and of an end tag, held against the chapter's words.
func TestWholeShort(t *testing.T) {
	texts(6, signs, func(s string) { holds(t, "a"+s) })
	texts(5, signs, func(s string) { holds(t, s) })
	texts(5, signs, func(s string) { holds(t, "/A"+s) })
}

// P8.4, P8.7, P8.10: odd pieces in every order, within a tag that would end behind them.
func TestWholePieces(t *testing.T) {
	texts(3, pieces, func(s string) {
		holds(t, s)
		holds(t, "a "+s+">")
		holds(t, "a b="+s+">")
		holds(t, "a b='"+s+"' c>")
		holds(t, `/a b="`+s+`" c>`)
	})
}

// P8.9: what stands behind the tag does not count.
func TestNothingBehindCounts(t *testing.T) {
	behind := []string{">", "a", "/", "/>", `"`, "'", "=", " ", "\x80", "\xbf\xbf", "\x00", "é", "\xff", "<b>", "x'>"}
	texts(4, signs, func(s string) {
		s = "a" + s + ">"
		got := whole(s)
		if !got.ended {
			return
		}
		for _, u := range behind {
			if more := whole(s + u); !more.is(got) {
				t.Fatalf("%q: %#v, %#v", s+u, more, got)
			}
		}
	})
	long := strings.Repeat("<b c='d'>é\xff", 100000)
	for _, s := range []string{"p>", "p x=1/>", "/p x='>'>", "p x='\xe2\x82'>"} {
		if got, more := whole(s), whole(s+long); !more.is(got) {
			t.Errorf("%q: %#v", s, more)
		}
	}
}

// P8.4: of a text that many tags follow, no more is read than the tag: all tags of a long text can be taken one by one.
func TestWholeOfMany(t *testing.T) {
	rest := strings.Repeat("i a=1>", 200000)
	count := 0
	for rest != "" {
		x, n, ok, e := tag.Whole(rest)
		if !ok || e != api.OK || n != 6 || x.Name != "i" {
			t.Fatalf("%d: %#v, %d, %v, %d", count, x, n, ok, e)
		}
		rest = rest[n:]
		count++
	}
	if count != 200000 {
		t.Errorf("%d tags", count)
	}
}

// P8.4: long names, long values, and a value with very many > in it.
func TestWholeLong(t *testing.T) {
	const n = 1 << 20
	for _, s := range []string{"x", "é", "\x00", "\xe2\x82"} {
		long := strings.Repeat(s, n)
		told := strings.Repeat(strings.NewReplacer("\x00", "\ufffd", "\xe2\x82", "\ufffd").Replace(s), n)
		tells(t, "a"+long+">", 0, start("a"+told))
		tells(t, "a "+long+"="+long+">", 0, start("a", attr(told, told)))
		tells(t, "a b='"+long+"' c="+long+" x/>", 0, self("a", attr("b", told), attr("c", told), attr("x", "")))
		tells(t, "/a"+long+" b='"+long+"'>", 0, end("a"+told))
	}
	many := strings.Repeat(">", n)
	tells(t, "a b='"+many+"'>", 0, start("a", attr("b", many)))
	blank := strings.Repeat(" \n/", n)
	tells(t, "a"+blank+"b"+blank+">", 0, self("a", attr("b", "")))
	tells(t, "a b='"+strings.Repeat("&#65;", n/16)+"'>", 0, start("a", attr("b", strings.Repeat("A", n/16))))
	if got := whole("a b='" + many); !got.is(answer{size: n + 5}) {
		t.Errorf("a value without its end: %d, %v, %d", got.size, got.ended, got.e)
	}
}
