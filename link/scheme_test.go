package link_test

import (
	"strings"
	"testing"
	"unicode/utf8"

	"sieve/api"
	"sieve/link"
	"sieve/utf"
)

// P12.1: bytes up to 0x20 go at both ends, tabs and line ends go everywhere, and nothing else goes.
func TestStrip(t *testing.T) {
	for v, want := range map[string]string{
		"": "", "a": "a", " ": "", "\x00\x1f \t": "", " a ": "a", "\x00a\x1f": "a", "\x20\x01a b\x02\x20": "a b",
		"a\tb\nc\rd": "abcd", "\ta\t": "a", "a\x01b": "a\x01b", "a\fb\vc": "a\fb\vc", " a \t b ": "a  b", "\x21a\x7f": "\x21a\x7f",
		"\u00a0a\u00a0": "\u00a0a\u00a0", "\u2003a\u3000": "\u2003a\u3000", "\ufeffa": "\ufeffa", "\u0085a\u0085": "\u0085a\u0085",
		"java\r\nscript\t:": "javascript:", "\t\n\r": "", " \ta\t ": "a", "\xe2\t\x82": "\ufffd\ufffd", " \xff ": "\ufffd",
	} {
		if got := link.Strip(v); got != want {
			t.Errorf("%q: %q; want %q", v, got, want)
		}
	}
}

// scheme: Scheme answers so.
func scheme(t *testing.T, v, want string, has bool) {
	t.Helper()
	if got, ok := link.Scheme(v); got != want || ok != has {
		t.Errorf("%q: %q, %v; want %q, %v", v, got, ok, want, has)
	}
}

// P12.1: schemes with every sign that may stand in one, with capitals, and long ones.
func TestScheme(t *testing.T) {
	long := strings.Repeat("x", 1000)
	for v, want := range map[string]string{
		"a:": "a", "Z:": "z", " JaVa\tscript:x": "javascript", "http://a": "http", "a:b:c": "a", "a1+-.Z:": "a1+-.z", "a0123456789:": "a0123456789", "A+:": "a+", "a-:": "a-", "a.:": "a.",
		"\x01\x02a\r\n:": "a", "ABCDEFGHIJKLMNOPQRSTUVWXYZ:": "abcdefghijklmnopqrstuvwxyz", "a\t:": "a", "\na:": "a", "a::": "a", "a:\xff": "a", long + ":": long, strings.ToUpper(long) + ":/": long,
	} {
		scheme(t, v, want, true)
	}
	for _, v := range []string{"", "a", ":", ":x", "1a:b", "+a:", "-a:", ".a:", "a/b:c", "a?b:c", "a#b:c", "a\\b:", "a b:", "a_b:", "a%3A", "a%:", "é:", "aé:", "a\xff:", "\xff:", "a\x01:", "a\f:", "a\u00a0:", "/a:", "?a:", "#a:", "//a:1", "[a:", "a@b:", "a~:", "a：", "\u212a:", "ſ:", "a\u200b:", "\ufeffa:", long} {
		scheme(t, v, "", false)
	}
}

// P12.1: kinds, with / and \ in every order at the beginning.
func TestKind(t *testing.T) {
	for v, want := range map[string]api.LinkKind{
		"": api.LinkEmpty, " \t\x00": api.LinkEmpty, "a:": api.LinkScheme, "A1:b": api.LinkScheme, "?": api.LinkQuery, "?a:b": api.LinkQuery, "?/": api.LinkQuery, "#": api.LinkFrag, "#?": api.LinkFrag, "#a": api.LinkFrag,
		"a": api.LinkPath, "a/b": api.LinkPath, ".": api.LinkPath, "..": api.LinkPath, "1a:b": api.LinkPath, ":": api.LinkPath, "%2F": api.LinkPath, "a//": api.LinkPath, "\xff": api.LinkPath, "é": api.LinkPath, "／": api.LinkPath, "\u00a0/": api.LinkPath,
	} {
		if got := link.Kind(v); got != want {
			t.Errorf("%q: %d; want %d", v, got, want)
		}
	}
	for _, first := range []string{"/", "\\"} {
		for _, behind := range []string{"", "a", "?", "#", " a", ":", "a:b", "\x01/", "\xff", "a/", "a\\"} {
			if got := link.Kind(" " + first + behind); got != api.LinkRoot {
				t.Errorf("%q: %d", first+behind, got)
			}
			for _, second := range []string{"/", "\\", "\t/", "\n\\", "//", "\\\\", "/\\"} {
				if got := link.Kind(first + second + behind); got != api.LinkNet {
					t.Errorf("%q: %d", first+second+behind, got)
				}
			}
		}
	}
}

// same: Strip, Scheme, Kind and Split answer what the chapter's words say.
func same(t *testing.T, v string) {
	t.Helper()
	if got, want := link.Strip(v), modelStrip(v); got != want {
		t.Fatalf("Strip(%q): %q; want %q", v, got, want)
	}
	s, has := link.Scheme(v)
	if want, wantHas := modelScheme(v); s != want || has != wantHas {
		t.Fatalf("Scheme(%q): %q, %v; want %q, %v", v, s, has, want, wantHas)
	}
	if got, want := link.Kind(v), modelKind(v); got != want {
		t.Fatalf("Kind(%q): %d; want %d", v, got, want)
	}
	if got, want := link.Split(v), modelSplit(v); got != want {
		t.Fatalf("Split(%q): %+v; want %+v", v, got, want)
	}
}

// P12.1, P12.4: all short texts of the signs that matter, and every byte everywhere.
func TestLinksInAllOrders(t *testing.T) {
	texts(3, signs, func(v string) { same(t, v) })
	texts(6, []string{"a", ":", "/", "?", "#"}, func(v string) { same(t, v) })
	everywhere(func(v string) { same(t, v) })
}

// P12.2: which schemes may be.
func TestCheck(t *testing.T) {
	most := "x" + strings.Repeat("1", api.MaxName-1)
	for _, s := range []string{"a", "z", "http", "https", "mailto", "tel", "a1", "a+", "a-", "a.", "a+-.0z9", "x" + strings.Repeat(".", 99), most,
		"javascrip", "javascripts", "xjavascript", "dat", "datas", "data.", "data+x", "vbscrip", "vbscripts", "blo", "blobs", "fil", "files", "filesyste", "filesystems", "file-system", "abou", "abouts"} {
		if e := link.Check(s); e != api.OK {
			t.Errorf("%q: %d", s, e)
		}
	}
	for _, s := range []string{"javascript", "data", "vbscript", "blob", "file", "filesystem", "about",
		"", "A", "Http", "httP", "JavaScript", "1a", "+a", "-a", ".a", "a:", "http:", "a b", " a", "a ", "a\t", "\ta", "a\n", "a_", "a/", "a%", "é", "aé", "a\xff", "\xff", "a\x00", "a\u212a", "a,", "*", most + "1", most + "\xff", strings.Repeat("a", 1<<16)} {
		if e := link.Check(s); e != api.ErrLinkForm {
			t.Errorf("%q: %d", s, e)
		}
	}
	texts(3, []string{"a", "z", "A", "0", "9", "+", "-", ".", ":", "/", " ", "\t", "_", "é", "\xff", "data", "file"}, func(s string) {
		if e := link.Check(s); e != modelCheck(s) {
			t.Fatalf("%q: %d", s, e)
		}
	})
	everywhere(func(s string) {
		if e := link.Check(s); e != modelCheck(s) {
			t.Fatalf("%q: %d", s, e)
		}
	})
}

// wrongLists: lists of schemes of which one may not be, at any place.
var wrongLists = [][]string{{"javascript"}, {"data", "https"}, {"https", "data"}, {"https", "", "http"}, {"HTTPS"}, {"https", "http", "1"}, {"https:", "https"}, {"https", " http"}, {"é"}, {"https", "a\xff"}, {strings.Repeat("a", api.MaxName+1)}}

// P12.3, P12.8: a scheme that may not be is told ahead of all else, and nothing beside it.
func TestWrongSchemes(t *testing.T) {
	for _, l := range wrongLists {
		for _, v := range []string{"", "a", "/a", "https:x", "http:x", "javascript:x", "data:x", "\xff", "?", "//a"} {
			for _, relative := range []bool{false, true} {
				if ok, e := link.Allowed(v, l, relative); ok || e != api.ErrLinkForm {
					t.Errorf("Allowed(%q, %q): %v, %d", v, l, ok, e)
				}
				if s, ok, e := link.Tidy(v, l, relative); s != "" || ok || e != api.ErrLinkForm {
					t.Errorf("Tidy(%q, %q): %q, %v, %d", v, l, s, ok, e)
				}
			}
		}
	}
}

// allowed: Allowed answers so, and Tidy with it.
func allowed(t *testing.T, v string, schemes []string, relative, want bool) {
	t.Helper()
	if ok, e := link.Allowed(v, schemes, relative); ok != want || e != api.OK {
		t.Errorf("Allowed(%q, %q, %v): %v, %d; want %v", v, schemes, relative, ok, e, want)
	}
	s, ok, e := link.Tidy(v, schemes, relative)
	if ok != want || e != api.OK || !ok && s != "" {
		t.Errorf("Tidy(%q, %q, %v): %q, %v, %d; want %v", v, schemes, relative, s, ok, e, want)
	}
}

// P12.3: a link with a scheme is allowed by its scheme alone, one without by relative alone.
func TestAllowed(t *testing.T) {
	long := strings.Repeat("a", api.MaxName)
	lists := [][]string{nil, {}, {"https"}, {"http", "https", "mailto"}, {"https", "https"}, {long}, {"mailto", "a+b"}}
	for _, l := range lists {
		for _, relative := range []bool{false, true} {
			for _, v := range []string{"", " ", "a", "/a", "//a", "\\\\a", "?a", "#a", "./a:b", "1a:b", ":", "a b:c", "\xff:", "https", "https/:", "java script:x", "https%3Ax"} {
				allowed(t, v, l, relative, relative)
			}
			for _, v := range []string{"javascript:1", " JaVa\tscript:x", "\x01data:x", "a:", "httpss:x", "http+x:", long + "a:"} {
				allowed(t, v, l, relative, false)
			}
		}
	}
	for _, relative := range []bool{false, true} {
		for _, v := range []string{"https:", "HTTPS://a", " \nht\ttps:x", "hTTps:\xff"} {
			allowed(t, v, nil, relative, false)
			allowed(t, v, []string{"http", "mailto"}, relative, false)
			allowed(t, v, []string{"https"}, relative, true)
			allowed(t, v, []string{"https", "http"}, relative, true)
			allowed(t, v, []string{"http", "https", "mailto"}, relative, true)
			allowed(t, v, []string{"http", "mailto", "https"}, relative, true)
		}
		allowed(t, long+":", []string{long}, relative, true)
		allowed(t, "A+B:", []string{"mailto", "a+b"}, relative, true)
	}
}

// P12.8: how a link is written.
func TestTidy(t *testing.T) {
	schemes := []string{"http", "https", "ftp", "ws", "wss", "mailto", "wsx", "h"}
	for v, want := range map[string]string{
		"": "", " ": "", "a": "a", "  HTTPS://x y": "https://x%20y", " \x01a\t b\n ": "a%20b", "é": "%C3%A9", "\xff": "%EF%BF%BD", "a\x01b": "a%01b", "%41%4g%": "%41%254g%25",
		`\\a\b?c\d`: "//a/b?c%5Cd", `\a#b\c`: "/a#b%5Cc", `a\b\c`: "a/b/c", `?a\b`: "?a%5Cb", `#a\b`: "#a%5Cb", `a\#b\?c\`: "a/#b%5C?c%5C", `\`: "/", `\\`: "//", `a\?b#\`: "a/?b#%5C",
		`HTTP:\\A\B`: "http://A/B", `http:\\a\b?c\d#\`: "http://a/b?c%5Cd#%5C", `https:\a`: "https:/a", `ftp:a\b`: "ftp:a/b", `WS:\\a`: "ws://a", `wss:\\a`: "wss://a",
		`MAILTO:a\b`: "mailto:a%5Cb", `mailto:\\a\b?c\d`: "mailto:%5C%5Ca%5Cb?c%5Cd", `wsx:\\a`: "wsx:%5C%5Ca", `H:\`: "h:%5C",
		"ht\ttp:\\\\a": "http://a", "HTTP:HTTP:\\": "http:HTTP:/", "A/B:C": "A/B:C", "1A:\\": "1A:/", "http:": "http:",
	} {
		if got, ok, e := link.Tidy(v, schemes, true); got != want || !ok || e != api.OK {
			t.Errorf("%q: %q, %v, %d; want %q", v, got, ok, e, want)
		}
	}
	if s, ok, e := link.Tidy("javascript:1", []string{"https"}, true); s != "" || ok || e != api.OK {
		t.Errorf("%q, %v, %d", s, ok, e)
	}
	if s, ok, e := link.Tidy("/a", []string{"https"}, false); s != "" || ok || e != api.OK {
		t.Errorf("%q, %v, %d", s, ok, e)
	}
}

// modelTidy: of a link that is allowed.
func modelTidy(v string) string {
	v = modelStrip(v)
	scheme, has := modelScheme(v)
	if has {
		v = scheme + v[len(scheme):]
	}
	out, ahead := "", !has || strings.Contains(" http https ftp ws wss ", " "+scheme+" ")
	for _, r := range v {
		ahead = ahead && r != '?' && r != '#'
		if ahead && r == '\\' {
			r = '/'
		}
		out += string(r)
	}
	return modelEncode(out)
}

// P12.8, P12.10: all short texts of the signs that matter; what is told stays, is allowed, and has the same kind and scheme.
func TestTidyStays(t *testing.T) {
	schemes := []string{"a", "http", "aza"}
	check := func(v string) {
		want, wantOK := "", true
		if s, has := modelScheme(v); has {
			wantOK = s == "a" || s == "http" || s == "aza"
		}
		if wantOK {
			want = modelTidy(v)
		}
		got, ok, e := link.Tidy(v, schemes, true)
		if got != want || ok != wantOK || e != api.OK {
			t.Fatalf("%q: %q, %v, %d; want %q, %v", v, got, ok, e, want, wantOK)
		}
		if !ok {
			return
		}
		if again, ok, e := link.Tidy(got, schemes, true); again != got || !ok || e != api.OK {
			t.Fatalf("%q, again: %q, %v, %d", got, again, ok, e)
		}
		if ok, e := link.Allowed(got, schemes, true); !ok || e != api.OK {
			t.Fatalf("%q, of %q: %v, %d", got, v, ok, e)
		}
		was, had := link.Scheme(v)
		if is, has := link.Scheme(got); is != was || has != had || link.Kind(got) != link.Kind(v) {
			t.Fatalf("%q, of %q: %q, %d", got, v, is, link.Kind(got))
		}
	}
	texts(3, signs, check)
	texts(4, []string{"http", "A", ":", "\\", "/", "?", "#", " ", "%4", "\xc3"}, check)
	everywhere(check)
}

// P12.10: Strip, Encode and Dots of their own answers.
func TestAnswersStay(t *testing.T) {
	for name, call := range map[string]func(string) string{"Strip": link.Strip, "Encode": link.Encode, "Dots": link.Dots} {
		check := func(v string) {
			once := call(v)
			if twice := call(once); twice != once {
				t.Fatalf("%s(%q): %q, then %q", name, v, once, twice)
			}
		}
		texts(3, signs, check)
		texts(6, []string{"a", "/", ".", "..", " "}, check)
		texts(5, []string{"%", "2", "5", "g", "\xff", "\t"}, check)
		everywhere(check)
	}
}

// P12.11: bytes up to 0x20 at the ends, and tabs and line ends between any two runes, hide nothing.
func TestNothingHides(t *testing.T) {
	schemes := []string{"a", "https"}
	check := func(v, hidden string) {
		if got, want := link.Strip(hidden), link.Strip(v); got != want || strings.ContainsAny(got, "\t\n\r") {
			t.Fatalf("Strip(%q): %q; of %q: %q", hidden, got, v, want)
		}
		was, had := link.Scheme(v)
		if is, has := link.Scheme(hidden); is != was || has != had || link.Kind(hidden) != link.Kind(v) {
			t.Fatalf("%q: %q, %d; of %q: %q, %d", hidden, is, link.Kind(hidden), v, was, link.Kind(v))
		}
		for _, relative := range []bool{false, true} {
			was, _ := link.Allowed(v, schemes, relative)
			if is, e := link.Allowed(hidden, schemes, relative); is != was || e != api.OK {
				t.Fatalf("Allowed(%q): %v, %d; of %q: %v", hidden, is, e, v, was)
			}
		}
	}
	links := []string{"https://a", "javascript:alert(1)", "a:b", "//a", "\\/a", "?a", "#a", "", "é:x", "a b:c", "\xff\xe2\x82", "a\x01"}
	texts(2, signs, func(v string) { links = append(links, v) })
	for _, v := range links {
		for c := range 0x21 {
			b := string(rune(c))
			check(v, b+v)
			check(v, v+b)
			check(v, "\t"+b+v+b+b)
		}
		whole := utf.Mend(v)
		for _, b := range []string{"\t", "\n", "\r", "\r\n\t"} {
			all := b
			for at, r := range whole {
				check(v, whole[:at]+b+whole[at:])
				all += string(r) + b
			}
			check(v, all)
		}
	}
}

// Bytes that are no UTF-8 are mended ahead of all else, and what is told is valid.
func TestBrokenLinks(t *testing.T) {
	for _, b := range broken {
		for _, shape := range []string{"X", " X ", "aX", "Xa", "a:X", "//X/X?X#X", "X:a", "/X", "a\tX\n", "http:X\\"} {
			v, want := strings.ReplaceAll(shape, "X", b[0]), strings.ReplaceAll(shape, "X", b[1])
			same(t, v)
			s, _, _ := link.Tidy(v, []string{"a", "http"}, true)
			if link.Strip(v) != link.Strip(want) || link.Kind(v) != link.Kind(want) || link.Split(v) != link.Split(want) || s != modelTidy(want) {
				t.Errorf("%q", v)
			}
			if l := link.Split(v); !utf8.ValidString(l.Host + "|" + l.Path + "|" + l.Query + "|" + l.Frag) {
				t.Errorf("%q: %+v", v, l)
			}
		}
	}
}
