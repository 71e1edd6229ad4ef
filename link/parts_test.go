package link_test

import (
	"strings"
	"testing"
	"unicode/utf8"

	"sieve/api"
	"sieve/link"
	"sieve/utf"
)

// P12.4: parts that are there, that are there and empty, and that are not there.
func TestSplit(t *testing.T) {
	for v, want := range map[string]api.Link{
		"":                     {},
		"HTTP://a:1/b?c#d":     {Scheme: "http", Host: "a:1", Path: "/b", Query: "c", Frag: "d", HasScheme: true, HasHost: true, HasQuery: true, HasFrag: true},
		"mailto:a@b":           {Scheme: "mailto", Path: "a@b", HasScheme: true},
		"a:":                   {Scheme: "a", HasScheme: true},
		"a://?#":               {Scheme: "a", HasScheme: true, HasHost: true, HasQuery: true, HasFrag: true},
		"//":                   {HasHost: true},
		"//a":                  {Host: "a", HasHost: true},
		"///a":                 {HasHost: true, Path: "/a"},
		"////":                 {HasHost: true, Path: "//"},
		"/a//b":                {Path: "/a//b"},
		"?":                    {HasQuery: true},
		"#":                    {HasFrag: true},
		"?#":                   {HasQuery: true, HasFrag: true},
		"#?":                   {Frag: "?", HasFrag: true},
		"#a#b?c:d//e":          {Frag: "a#b?c:d//e", HasFrag: true},
		"?a?b#c?d":             {Query: "a?b", HasQuery: true, Frag: "c?d", HasFrag: true},
		"?//a/b":               {Query: "//a/b", HasQuery: true},
		"//a?b/c":              {Host: "a", HasHost: true, Query: "b/c", HasQuery: true},
		"//a#b?c/d":            {Host: "a", HasHost: true, Frag: "b?c/d", HasFrag: true},
		"//u:p@h:1":            {Host: "u:p@h:1", HasHost: true},
		`\\a\b`:                {Path: `\\a\b`},
		`a:\\b`:                {Scheme: "a", HasScheme: true, Path: `\\b`},
		`//a\b/c\d`:            {Host: `a\b`, HasHost: true, Path: `/c\d`},
		`/\a`:                  {Path: `/\a`},
		"a:b:c":                {Scheme: "a", HasScheme: true, Path: "b:c"},
		"1a:b":                 {Path: "1a:b"},
		" \tA\n:/\t/b c/ d? #": {Scheme: "a", HasScheme: true, Host: "b c", HasHost: true, Path: "/ d", Query: " ", HasQuery: true, HasFrag: true},
		"%2F%2Fa":              {Path: "%2F%2Fa"},
		"//\xff/\xe2\x82?é":    {Host: "\ufffd", HasHost: true, Path: "/\ufffd", Query: "é", HasQuery: true},
	} {
		if got := link.Split(v); got != want {
			t.Errorf("%q: %+v; want %+v", v, got, want)
		}
	}
}

// P12.4: a part is written just if its Has.. is true, empty or not; the path always.
func TestJoin(t *testing.T) {
	for has := range 16 {
		for empty := range 32 {
			text := func(bit int, s string) string {
				if empty&(1<<bit) != 0 {
					return ""
				}
				return s
			}
			l := api.Link{
				Scheme: text(0, "S"), Host: text(1, "h"), Path: text(2, "p"), Query: text(3, "q"), Frag: text(4, "f"),
				HasScheme: has&1 != 0, HasHost: has&2 != 0, HasQuery: has&4 != 0, HasFrag: has&8 != 0,
			}
			want := ""
			if l.HasScheme {
				want += l.Scheme + ":"
			}
			if l.HasHost {
				want += "//" + l.Host
			}
			want += l.Path
			if l.HasQuery {
				want += "?" + l.Query
			}
			if l.HasFrag {
				want += "#" + l.Frag
			}
			if got := link.Join(l); got != want {
				t.Errorf("%+v: %q; want %q", l, got, want)
			}
		}
	}
}

// P12.4: each part is mended by itself.
func TestJoinBroken(t *testing.T) {
	for _, b := range broken {
		l := api.Link{Scheme: b[0], Host: b[0], Path: b[0], Query: b[0], Frag: b[0], HasScheme: true, HasHost: true, HasQuery: true, HasFrag: true}
		if got, want := link.Join(l), strings.ReplaceAll("X://XX?X#X", "X", b[1]); got != want {
			t.Errorf("%q: %q; want %q", b[0], got, want)
		}
	}
	if got := link.Join(api.Link{Host: "\xe2", Path: "\x82\xac", HasHost: true}); got != "//\ufffd\ufffd\ufffd" {
		t.Errorf("%q", got)
	}
}

// P12.9: Join of Split is the stripped text, but for the scheme's capitals.
func TestThereAndBack(t *testing.T) {
	check := func(v string) {
		want := modelStrip(v)
		if s, has := modelScheme(v); has {
			want = s + want[len(s):]
		}
		l := link.Split(v)
		got := link.Join(l)
		if got != want {
			t.Fatalf("%q: %q; want %q", v, got, want)
		}
		if again := link.Split(got); again != l {
			t.Fatalf("%q: %+v, then %+v", v, l, again)
		}
	}
	texts(3, signs, check)
	texts(6, []string{"A", ":", "/", "?", "#"}, check)
	everywhere(check)
}

// P12.9: Split of Join, of parts put together of what can come from Split.
func TestBackAndThere(t *testing.T) {
	for _, scheme := range []string{"", "a", "http", "a+.-1"} {
		for _, host := range []string{"-", "", "a", "u@h:1", `a\b`, "é c"} {
			for _, path := range []string{"", "/", "/a/../b", "/a:b//c", `/\`} {
				for _, query := range []string{"-", "", "a=b&c", "?/:"} {
					for _, frag := range []string{"-", "", "a", "#?/:"} {
						l := api.Link{Scheme: scheme, HasScheme: scheme != "", Path: path}
						if host != "-" {
							l.Host, l.HasHost = host, true
						}
						if query != "-" {
							l.Query, l.HasQuery = query, true
						}
						if frag != "-" {
							l.Frag, l.HasFrag = frag, true
						}
						if got := link.Split(link.Join(l)); got != l {
							t.Fatalf("%+v: %+v", l, got)
						}
					}
				}
			}
		}
	}
}

// P12.16: the last @ parts the user, the last : the port, if digits alone stand behind it.
func TestAuthority(t *testing.T) {
	for host, want := range map[string][3]string{
		"": {}, "a": {"", "a", ""}, "a:1": {"", "a", "1"}, "a:": {"", "a", ""}, "a:b": {"", "a:b", ""}, ":": {}, ":80": {"", "", "80"}, "::": {"", ":", ""}, "a:1:2": {"", "a:1", "2"}, "a:1:": {"", "a:1", ""}, "a:1:b": {"", "a:1:b", ""},
		"@": {}, "@a": {"", "a", ""}, "u@": {"u", "", ""}, "u@h": {"u", "h", ""}, "u:p@h:1": {"u:p", "h", "1"}, "u@v@h": {"u@v", "h", ""}, "u@v@h:2": {"u@v", "h", "2"}, "u:1@h": {"u:1", "h", ""}, "u:1@": {"u:1", "", ""}, "@@": {"@", "", ""}, "u@:": {"u", "", ""}, "u@:7": {"u", "", "7"},
		"[::1]": {"", "[::1]", ""}, "[::1]:80": {"", "[::1]", "80"}, "[::1]:": {"", "[::1]", ""}, "[::1": {"", "[:", "1"}, "[::1]:8]": {"", "[::1]:8]", ""}, "]:1": {"", "]", "1"}, ":1]": {"", ":1]", ""}, ":]": {"", ":]", ""}, "]:": {"", "]", ""}, "[a]b:1": {"", "[a]b", "1"}, ":1]:2": {"", ":1]", "2"},
		"a:00080": {"", "a", "00080"}, "a:99999999999999999999": {"", "a", "99999999999999999999"}, "a:-1": {"", "a:-1", ""}, "a:1 ": {"", "a:1 ", ""}, "a: 1": {"", "a: 1", ""}, "a:１": {"", "a:１", ""}, "a:0x1": {"", "a:0x1", ""}, "a:1\n": {"", "a:1\n", ""}, " a :1": {"", " a ", "1"},
		"\xff@\xe2\x82:1": {"\ufffd", "\ufffd", "1"}, "a:1\xff": {"", "a:1\ufffd", ""}, "\xc0\xaf": {"", "\ufffd\ufffd", ""},
	} {
		user, name, port := link.Authority(host)
		if got := [3]string{user, name, port}; got != want {
			t.Errorf("%q: %q; want %q", host, got, want)
		}
	}
	check := func(host string) {
		user, name, port := link.Authority(host)
		if got, want := [3]string{user, name, port}, modelAuthority(host); got != want {
			t.Fatalf("%q: %q; want %q", host, got, want)
		}
		if !utf8.ValidString(user + "|" + name + "|" + port) {
			t.Fatalf("%q: %q, %q, %q", host, user, name, port)
		}
	}
	texts(5, []string{"a", "1", "@", ":", "[", "]", "\xff", "/"}, check)
	everywhere(check)
}

// parted: a link's parts as one text, to see that all of them are valid.
func parted(l api.Link) string {
	return l.Scheme + "|" + l.Host + "|" + l.Path + "|" + l.Query + "|" + l.Frag
}

// mend: a link that is mended, each text of it, whatever its Has.. says.
func mend(l api.Link) api.Link {
	for _, text := range []*string{&l.Scheme, &l.Host, &l.Path, &l.Query, &l.Frag} {
		*text = utf.Mend(*text)
	}
	return l
}
