package link_test

import (
	"strings"
	"testing"
	"unicode/utf8"

	"sieve/api"
	"sieve/link"
)

// P12.6: dot segments at the beginning, in the middle, at the end, alone; more .. than there are segments; empty segments.
func TestDots(t *testing.T) {
	for path, want := range map[string]string{
		"": "", "a": "a", "/": "/", "a/b": "a/b", "/a/b/": "/a/b/", "/a/b/c/./../../g": "/a/g", "mid/content=5/../6": "mid/6",
		".": "", "..": "", "./": "", "../": "", "./a": "a", "../a": "a", "../../a": "a", "./../a": "a", ".././": "", "../..": "", "./.": "",
		"/.": "/", "/..": "/", "/./": "/", "/../": "/", "/./a": "/a", "/../a": "/a", "/../../../a": "/a", "/../..": "/",
		"a/.": "a/", "a/..": "/", "a/./": "a/", "a/../": "/", "a/./b": "a/b", "a/../b": "/b", "a/../../b": "/b", "a/b/..": "a/", "a/b/../": "a/", "a/b/../..": "/", "a/b/../../..": "/",
		"/a/.": "/a/", "/a/..": "/", "/a/b/..": "/a/", "/a/b/../../..": "/", "/a/../../b": "/b",
		"//": "//", "//a": "//a", "a//b": "a//b", "a//..": "a/", "a//../b": "a/b", "//..": "/", "//../a": "/a", "///..": "//", "/a//./b": "/a//b", "..//": "/", ".//a": "/a", "..//..": "/",
		"...": "...", "/...": "/...", "/.a": "/.a", "/..a": "/..a", ".a": ".a", "..a": "..a", "a.": "a.", "a..": "a..", "/a./b": "/a./b", "/a../b": "/a../b", "/.../..": "/",
		"/%2e": "/%2e", "/%2E%2e/a": "/%2E%2e/a", "a/?/..": "a/", `a\..`: `a\..`, "/. /a": "/. /a", "é/../\xff": "/\ufffd", "\xe2\x82": "\ufffd", " ./a": " ./a",
	} {
		if got := link.Dots(path); got != want {
			t.Errorf("%q: %q; want %q", path, got, want)
		}
	}
	check := func(path string) {
		if got, want := link.Dots(path), modelDots(path); got != want {
			t.Fatalf("%q: %q; want %q", path, got, want)
		}
	}
	texts(8, []string{"a", "/", "."}, check)
	texts(5, []string{"/", "..", ".", "b", "/../", "\xff"}, check)
	everywhere(check)
}

// P12.7: RFC 3986's examples of resolving (5.4), all of them.
func TestResolveExamples(t *testing.T) {
	base := link.Split("http://a/b/c/d;p?q")
	for ref, want := range map[string]string{
		"g:h": "g:h", "g": "http://a/b/c/g", "./g": "http://a/b/c/g", "g/": "http://a/b/c/g/", "/g": "http://a/g", "//g": "http://g", "?y": "http://a/b/c/d;p?y", "g?y": "http://a/b/c/g?y", "#s": "http://a/b/c/d;p?q#s",
		"g#s": "http://a/b/c/g#s", "g?y#s": "http://a/b/c/g?y#s", ";x": "http://a/b/c/;x", "g;x": "http://a/b/c/g;x", "g;x?y#s": "http://a/b/c/g;x?y#s", "": "http://a/b/c/d;p?q", ".": "http://a/b/c/", "./": "http://a/b/c/",
		"..": "http://a/b/", "../": "http://a/b/", "../g": "http://a/b/g", "../..": "http://a/", "../../": "http://a/", "../../g": "http://a/g",
		"../../../g": "http://a/g", "../../../../g": "http://a/g", "/./g": "http://a/g", "/../g": "http://a/g", "g.": "http://a/b/c/g.", ".g": "http://a/b/c/.g", "g..": "http://a/b/c/g..", "..g": "http://a/b/c/..g",
		"./../g": "http://a/b/g", "./g/.": "http://a/b/c/g/", "g/./h": "http://a/b/c/g/h", "g/../h": "http://a/b/c/h", "g;x=1/./y": "http://a/b/c/g;x=1/y", "g;x=1/../y": "http://a/b/c/y",
		"g?y/./x": "http://a/b/c/g?y/./x", "g?y/../x": "http://a/b/c/g?y/../x", "g#s/./x": "http://a/b/c/g#s/./x", "g#s/../x": "http://a/b/c/g#s/../x", "http:g": "http:g",
	} {
		if got := link.Join(link.Resolve(base, link.Split(ref))); got != want {
			t.Errorf("%q: %q; want %q", ref, got, want)
		}
	}
}

// P12.7: bases with and without a host, a path, a /, a query, a fragment, a scheme.
func TestResolve(t *testing.T) {
	for _, c := range [][3]string{
		{"http://a", "g", "http://a/g"}, {"http://a", "../g", "http://a/g"}, {"http://a", "", "http://a"}, {"http://a", "?y", "http://a?y"}, {"http://a?q", "#s", "http://a?q#s"}, {"http://a?q", "g", "http://a/g"}, {"http://", "g", "http:///g"},
		{"a:b", "g", "a:g"}, {"a:b", "./g", "a:g"}, {"a:b", "..", "a:"}, {"a:b/c", "g", "a:b/g"}, {"a:", "g", "a:g"}, {"a:b", "/g", "a:/g"}, {"a:b", "?y", "a:b?y"}, {"a:b", "//g", "a://g"},
		{"b", "g", "g"}, {"", "g", "g"}, {"", "", ""}, {"b/c", "g", "b/g"}, {"/b/c", "g", "/b/g"}, {"//h", "g", "//h/g"}, {"//h/b", "g", "//h/g"}, {"//h", "//g/../x", "//g/x"}, {"b/../c", "", "b/../c"}, {"b/../c", "#", "b/../c#"}, {"b/../c", "g", "/g"},
		{"http://a/b?q#f", "", "http://a/b?q"}, {"http://a/b?q#f", "#", "http://a/b?q#"}, {"http://a/b?q#f", "?", "http://a/b?"}, {"http://a/b?q#f", "?#", "http://a/b?#"}, {"http://a/b?q#f", "g", "http://a/g"}, {"http://a/b?", "", "http://a/b?"}, {"http://a/b?", "#s", "http://a/b?#s"}, {"http://a/b", "?", "http://a/b?"},
		{"http://a/b?q#f", "//", "http://"}, {"http://a/b?q#f", "//?y", "http://?y"}, {"http://a/b?q#f", "/", "http://a/"}, {"http://a/b?q#f", "c:", "c:"}, {"http://a/b?q#f", "c:?", "c:?"}, {"http://a/b?q#f", "c://", "c://"}, {"http://a/b?q#f", "c:../x/./y", "c:x/y"}, {"http://a/b?q#f", "http:?y", "http:?y"}, {"http://a/b?q#f", "c://h/x/../y#z", "c://h/y#z"},
		{"http://a/b//c", "g", "http://a/b//g"}, {"http://a/b//c", "../g", "http://a/b/g"}, {"http://a/b/", "g", "http://a/b/g"}, {"http://a/b/..", "g", "http://a/b/g"}, {"http://a/b?x/y", "g", "http://a/g"}, {`http://a/b\c`, "g", "http://a/g"},
	} {
		if got := link.Join(link.Resolve(link.Split(c[0]), link.Split(c[1]))); got != c[2] {
			t.Errorf("%q, %q: %q; want %q", c[0], c[1], got, c[2])
		}
	}
}

// oddLinks: links put together of every part there and not there, empty and not.
func oddLinks() []api.Link {
	var out []api.Link
	for _, scheme := range []string{"-", "", "a"} {
		for _, host := range []string{"-", "", "h"} {
			for _, path := range []string{"", "/", "b", "/b/c", "b/../c", "..", "c"} {
				for _, query := range []string{"-", "", "q"} {
					for _, frag := range []string{"-", "f"} {
						l := api.Link{Path: path, HasScheme: scheme != "-", HasHost: host != "-", HasQuery: query != "-", HasFrag: frag != "-"}
						if l.HasScheme {
							l.Scheme = scheme
						}
						if l.HasHost {
							l.Host = host
						}
						if l.HasQuery {
							l.Query = query
						}
						if l.HasFrag {
							l.Frag = frag
						}
						out = append(out, l)
					}
				}
			}
		}
	}
	return out
}

// besideFalse: links with texts of their own (told apart by mark) in every part, there or not, beside such as have nothing there.
func besideFalse(mark string) []api.Link {
	var out []api.Link
	for ways := range 81 {
		text := func(nth int, s string) (string, bool) {
			way := ways / nth % 3
			return []string{"", s + mark, s + mark}[way], way == 2
		}
		for _, path := range []string{"", "/", "/b/c", "c", "b/../c"} {
			l := api.Link{Path: path}
			l.Scheme, l.HasScheme = text(1, "s")
			l.Host, l.HasHost = text(3, "h")
			l.Query, l.HasQuery = text(9, "q")
			l.Frag, l.HasFrag = text(27, "f")
			out = append(out, l)
		}
	}
	return out
}

// compareResolved holds Resolve and Relative of each base with each reference against RFC 3986's own words; and Resolve of Relative is what was asked for.
func compareResolved(t *testing.T, bases, refs []api.Link) {
	for _, base := range bases {
		for _, ref := range refs {
			whole := link.Resolve(base, ref)
			if want := modelResolve(base, ref); whole != want {
				t.Fatalf("Resolve(%+v, %+v): %+v; want %+v", base, ref, whole, want)
			}
			r := link.Relative(base, ref)
			if want := modelRelative(base, ref); r != want {
				t.Fatalf("Relative(%+v, %+v): %+v; want %+v", base, ref, r, want)
			}
			if whole == ref && link.Resolve(base, r) != ref {
				t.Fatalf("Relative(%+v, %+v): %+v, which is %+v", base, ref, r, link.Resolve(base, r))
			}
		}
	}
}

// P12.7, P12.14, P12.17: each of these with each.
func TestResolveRelativeInAllOrders(t *testing.T) {
	links := oddLinks()
	compareResolved(t, links, links)
}

// P12.7, P12.14, P12.17: texts beside a false Has.. in every part of a base, of a ref and of a to: of other links, and of the same.
func TestResolveRelativeBesideFalse(t *testing.T) {
	bases := besideFalse("1")
	compareResolved(t, bases, bases)
	compareResolved(t, bases, besideFalse("2"))
}

// P12.7: each part is handed on with its Has.., by hand; whether it is there is told by its Has.. alone.
func TestResolveBesideFalse(t *testing.T) {
	base := api.Link{Scheme: "s", Host: "h", Path: "/p/q", Query: "q", Frag: "f"}
	ref := api.Link{Scheme: "S", Host: "H", Query: "Q", Frag: "F"}
	with := func(change func(l *api.Link)) api.Link {
		l := ref
		change(&l)
		return l
	}
	for _, c := range []struct{ base, ref, want api.Link }{
		{base, ref, api.Link{Scheme: "s", Host: "h", Path: "/p/q", Query: "q", Frag: "F"}},
		{base, with(func(l *api.Link) { l.HasScheme = true }), api.Link{Scheme: "S", HasScheme: true, Host: "H", Query: "Q", Frag: "F"}},
		{base, with(func(l *api.Link) { l.HasHost = true }), api.Link{Scheme: "s", Host: "H", HasHost: true, Query: "Q", Frag: "F"}},
		{base, with(func(l *api.Link) { l.HasQuery = true }), api.Link{Scheme: "s", Host: "h", Path: "/p/q", Query: "Q", HasQuery: true, Frag: "F"}},
		{base, with(func(l *api.Link) { l.HasFrag = true }), api.Link{Scheme: "s", Host: "h", Path: "/p/q", Query: "q", Frag: "F", HasFrag: true}},
		{base, with(func(l *api.Link) { l.Path = "/x" }), api.Link{Scheme: "s", Host: "h", Path: "/x", Query: "Q", Frag: "F"}},
		{base, with(func(l *api.Link) { l.Path = "x" }), api.Link{Scheme: "s", Host: "h", Path: "/p/x", Query: "Q", Frag: "F"}},
		{api.Link{Host: "h"}, api.Link{Path: "x"}, api.Link{Host: "h", Path: "x"}}, // no host is there, so no / either
		{api.Link{}, ref, api.Link{Frag: "F"}},
		{ref, api.Link{}, api.Link{Scheme: "S", Host: "H", Query: "Q"}},
	} {
		if got := link.Resolve(c.base, c.ref); got != c.want {
			t.Errorf("Resolve(%+v, %+v): %+v; want %+v", c.base, c.ref, got, c.want)
		}
	}
}

// P12.14: a text beside a false Has.. must come about, too; each way hands on those of its own parts.
func TestRelativeBesideFalse(t *testing.T) {
	base := api.Link{Scheme: "s", Host: "h", Path: "/p/q", Query: "q", Frag: "f"}
	for _, c := range []struct{ base, to, want api.Link }{
		{base, api.Link{Scheme: "s", Host: "h", Path: "/p/q", Query: "q", Frag: "F"}, api.Link{Frag: "F"}},
		{base, api.Link{Scheme: "s", Host: "h", Path: "/p/q", Query: "q"}, api.Link{}},
		{base, api.Link{Scheme: "s", Host: "h", Path: "/p/q", Query: "Q", HasQuery: true, Frag: "F"}, api.Link{Query: "Q", HasQuery: true, Frag: "F"}},
		{base, api.Link{Scheme: "s", Host: "h", Path: "/p/q", Query: "Q", Frag: "F"}, api.Link{Path: "q", Query: "Q", Frag: "F"}},
		{base, api.Link{Scheme: "s", Host: "h", Path: "/x/y", Query: "Q", Frag: "F"}, api.Link{Path: "/x/y", Query: "Q", Frag: "F"}},
		{base, api.Link{Scheme: "s", Host: "H", HasHost: true, Query: "Q", Frag: "F"}, api.Link{Host: "H", HasHost: true, Query: "Q", Frag: "F"}},
		{base, api.Link{Scheme: "s", Host: "H", Path: "/x", Query: "Q"}, api.Link{Scheme: "s", Host: "H", Path: "/x", Query: "Q"}},
		{base, api.Link{Scheme: "S", Host: "h", Path: "/p/q", Query: "q"}, api.Link{Scheme: "S", Host: "h", Path: "/p/q", Query: "q"}},
		{base, api.Link{}, api.Link{}},
		{api.Link{}, base, base},
	} {
		if got := link.Relative(c.base, c.to); got != c.want {
			t.Errorf("Relative(%+v, %+v): %+v; want %+v", c.base, c.to, got, c.want)
		}
	}
}

// P12.14: each of the five ways, and none.
func TestRelative(t *testing.T) {
	for _, c := range [][3]string{
		{"http://a/b/c?q", "http://a/b/c?q#s", "#s"}, {"http://a/b/c?q", "http://a/b/c?q", ""}, {"http://a/b/c?q", "http://a/b/c?q#", "#"}, {"http://a/b/c?q#f", "http://a/b/c?q", ""},
		{"http://a/b/c?q", "http://a/b/c?r", "?r"}, {"http://a/b/c?q", "http://a/b/c?", "?"}, {"http://a/b/c", "http://a/b/c?r#s", "?r#s"},
		{"http://a/b/c?q", "http://a/b/c", "c"}, {"http://a/b/c", "http://a/b/d", "d"}, {"http://a/b/c", "http://a/b/d?q#s", "d?q#s"}, {"http://a/b/c?q", "http://a/b/d?q", "d?q"}, {"http://a", "http://a/g", "g"}, {"b", "c", "c"}, {"b/c", "b/d", "d"},
		{"http://a/b/c", "http://a/d", "/d"}, {"http://a/b/c", "http://a/b/", "/b/"}, {"http://a/b/c", "http://a/b/d/e", "/b/d/e"}, {"http://a/b/c", "http://a/d?q#s", "/d?q#s"}, {"http://a/b/c", "http://a/", "/"}, {"b", "c/d", "c/d"},
		{"http://a/b", "http://g/b", "//g/b"}, {"http://a/b", "http://g", "//g"}, {"http://a/b", "http://g/?q#s", "//g/?q#s"}, {"http://a/b", "http://a", "//a"}, {"http://a/b", "http://", "//"},
		{"http://a/b", "https://a/b", "https://a/b"}, {"http://a/b", "mailto:x", "mailto:x"}, {"http://a/b", "http:b", "http:b"}, {"http://a/b", "http://a/c/../b", "http://a/c/../b"}, {"http://a/b", "/b", "/b"}, {"http://a/b", "", ""}, {"a:b", "c", "c"},
		{"http://a/b/../c", "http://a/b/../c#s", "#s"}, {"http://a/b/../c", "http://a/b/../c?r", "?r"}, {"http://a/.", "http://a/.?q", "?q"},
	} {
		if got := link.Relative(link.Split(c[0]), link.Split(c[1])); got != link.Split(c[2]) {
			t.Errorf("%q, %q: %q; want %q", c[0], c[1], link.Join(got), c[2])
		}
	}
	// A last segment with a : is still a path: as a part it is no scheme.
	if got := link.Relative(link.Split("http://a/b"), link.Split("http://a/c:d")); got != (api.Link{Path: "c:d"}) {
		t.Errorf("%+v", got)
	}
}

// P12.7, P12.14: the parts are mended, each by itself, those beside a false Has.. too.
func TestBrokenParts(t *testing.T) {
	base := link.Split("http://a/b/c?q#f")
	var odd []api.Link
	for _, b := range broken {
		for has := range 16 {
			for _, path := range []string{"", "/", b[0], "/x/" + b[0], "/x/../" + b[0] + "/y"} {
				odd = append(odd, api.Link{Scheme: b[0], Host: b[0], Path: path, Query: b[0], Frag: b[0], HasScheme: has&1 != 0, HasHost: has&2 != 0, HasQuery: has&4 != 0, HasFrag: has&8 != 0})
			}
		}
	}
	check := func(base, l api.Link) {
		whole := link.Resolve(base, l)
		if want := modelResolve(mend(base), mend(l)); whole != want || !utf8.ValidString(parted(whole)) {
			t.Fatalf("Resolve(%+v, %+v): %+v; want %+v", base, l, whole, want)
		}
		r := link.Relative(base, l)
		if want := modelRelative(mend(base), mend(l)); r != want || !utf8.ValidString(parted(r)) {
			t.Fatalf("Relative(%+v, %+v): %+v; want %+v", base, l, r, want)
		}
	}
	for i, l := range odd {
		check(base, l)
		check(l, base)
		check(l, odd[(i*7+3)%len(odd)])
		check(l, l)
	}
	split := api.Link{Host: "h", HasHost: true, Path: "/\xe2"}
	if got := link.Resolve(split, api.Link{Path: "\x82\xac"}); got.Path != "/\ufffd\ufffd" {
		t.Errorf("%+v", got)
	}
}

// Long paths and links end, and soon.
func TestLong(t *testing.T) {
	const n = 1 << 18
	for _, piece := range []string{"/", "a/", "../", "./", "/..", "/.", "/a", ".", "/../a", "a", ":", "?", "#", "%", "%4", "&", "=", "+", "@", ",", "a,", "a ,", "a (", "(", ")", "a 1x,", " ", "\t", "\xff", "\xe2\x82"} {
		s := strings.Repeat(piece, n/len(piece))
		l := link.Split(s)
		link.Join(link.Relative(l, link.Resolve(l, l)))
		link.Decode(link.Encode(s))
		link.Dots("/" + s)
		link.Query(link.Pairs(s)...)
		c, _ := link.Srcset("a " + s)
		link.Set(c...)
		link.Authority(s)
		link.Check(s)
		link.Tidy(s, []string{"a"}, true)
	}
}
