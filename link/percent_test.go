package link_test

import (
	"fmt"
	"slices"
	"strings"
	"testing"
	"unicode/utf8"

	"sieve/api"
	"sieve/link"
	"sieve/utf"
)

// P12.5: each byte that is turned, and its neighbours, that are not; a % with none, one and two hexadecimal digits behind it.
func TestEncode(t *testing.T) {
	for s, want := range map[string]string{
		"": "", "a b%2g\"é": "a%20b%252g%22%C3%A9", "\x00\x1f !": "%00%1F%20!", "~\x7f\u0080": "~%7F%C2%80", "!\"#": "!%22#", ";<=>?": ";%3C=%3E?", "[\\]": "[%5C]", "]^_`a": "]%5E_%60a", "z{|}~": "z%7B%7C%7D~",
		"%": "%25", "%%": "%25%25", "%4": "%254", "%41": "%41", "%4a": "%4a", "%aF": "%aF", "%Fg": "%25Fg", "%g4": "%25g4", "%4%": "%254%25", "%%41": "%25%41", "%4%41": "%254%41", "a%": "a%25", "a%4": "a%254", "a%4F": "a%4F", "%25": "%25", "% 41": "%25%2041", "%4é": "%254%C3%A9", "%é": "%25%C3%A9", "%００": "%25%EF%BC%90%EF%BC%90", "%/0": "%25/0", "%:0": "%25:0", "%@0": "%25@0", "%G0": "%25G0", "%`0": "%25%600", "%0/": "%250/", "%0:": "%250:", "%0@": "%250@", "%0`": "%250%60", "%9f": "%9f", "%A0": "%A0",
		"\xff": "%EF%BF%BD", "\xe2\x82": "%EF%BF%BD", "\xc0\xaf": "%EF%BF%BD%EF%BF%BD", "\U0001F600": "%F0%9F%98%80", "\t\n\r\f": "%09%0A%0D%0C", "'()*+,-.": "'()*+,-.", "$&": "$&", "a\u00a0b": "a%C2%A0b",
	} {
		if got := link.Encode(s); got != want {
			t.Errorf("%q: %q; want %q", s, got, want)
		}
	}
}

// P12.5: escapes in any capitals, once, from the left; what comes is mended.
func TestDecode(t *testing.T) {
	for s, want := range map[string]string{
		"": "", "a": "a", "%41%4a%": "AJ%", "%4A%4a%aa": "JJ\ufffd", "%": "%", "%4": "%4", "%%": "%%", "%%41": "%A", "%4%41": "%4A", "%2541": "%41", "%25%34%31": "%41", "%25252525": "%252525", "%g1": "%g1", "%1g": "%1g", "a%20b": "a b", "a+b": "a+b", "%00": "\x00", "%0a": "\n", "%7F": "\x7f", "%C3%A9": "é", "%c3%a9": "é", "é": "é", "%2": "%2", "%41%": "A%", "%41%4": "A%4", "%/0": "%/0", "%:0": "%:0", "%@0": "%@0", "%G0": "%G0", "%`0": "%`0",
		"%E2%82": "\ufffd", "%E2%82%AC": "€", "%E2a%82": "\ufffda\ufffd", "%FF%FE": "\ufffd\ufffd", "%ED%A0%80": "\ufffd\ufffd\ufffd", "%C3\xa9": "\ufffd\ufffd", "\xe2%82%AC": "\ufffd\ufffd\ufffd", "\xff": "\ufffd", "\xe2\x82": "\ufffd", "%F0%9F%98%80": "\U0001F600",
	} {
		if got := link.Decode(s); got != want {
			t.Errorf("%q: %q; want %q", s, got, want)
		}
	}
	for c := range 256 {
		want := utf.Mend(string([]byte{byte(c)}))
		for _, form := range []string{"%%%02X", "%%%02x"} {
			if got := link.Decode(fmt.Sprintf(form, c)); got != want {
				t.Errorf("%02x: %q", c, got)
			}
		}
	}
}

// P12.5, P12.12: all short texts of the signs that matter, and every byte everywhere; Encode's answer is ASCII without blanks, and says what was said.
func TestEscapesInAllOrders(t *testing.T) {
	check := func(s string) {
		encoded, decoded := link.Encode(s), link.Decode(s)
		if want := modelEncode(s); encoded != want {
			t.Fatalf("Encode(%q): %q; want %q", s, encoded, want)
		}
		if want := modelDecode(s); decoded != want || !utf8.ValidString(decoded) {
			t.Fatalf("Decode(%q): %q; want %q", s, decoded, want)
		}
		if got := link.Decode(encoded); got != decoded {
			t.Fatalf("Decode(Encode(%q)): %q; want %q", s, got, decoded)
		}
		if strings.ContainsFunc(encoded, func(r rune) bool { return r <= ' ' || r >= 0x7f }) {
			t.Fatalf("Encode(%q): %q", s, encoded)
		}
	}
	texts(5, []string{"%", "4", "a", "F", "g", "\xc3", "\xa9", "+"}, check)
	texts(4, []string{"%E2", "%82", "%AC", "%25", "%", "41", "\xe2\x82", " "}, check)
	texts(3, signs, check)
	everywhere(check)
}

// P12.15: parts that are empty, with no, one and more =, with + and %.
func TestPairs(t *testing.T) {
	for query, want := range map[string][]api.Attr{
		"": nil, "&": nil, "&&&": nil, "a=b": {{Name: "a", Value: "b"}}, "a": {{Name: "a"}}, "a=": {{Name: "a"}}, "=": {{}}, "=b": {{Value: "b"}}, "==": {{Value: "="}}, "a=b=c": {{Name: "a", Value: "b=c"}},
		"a=b&c=d": {{Name: "a", Value: "b"}, {Name: "c", Value: "d"}}, "&a&&b&": {{Name: "a"}, {Name: "b"}}, "a=1&a=2": {{Name: "a", Value: "1"}, {Name: "a", Value: "2"}}, "=&=": {{}, {}},
		"a+b=c+d": {{Name: "a b", Value: "c d"}}, "a%2Bb=%2b": {{Name: "a+b", Value: "+"}}, "+": {{Name: " "}}, "%26=%3D": {{Name: "&", Value: "="}}, "%3d": {{Name: "="}}, "a%3Db=c": {{Name: "a=b", Value: "c"}}, "%=%4": {{Name: "%", Value: "%4"}}, "%+41": {{Name: "% 41"}}, "%2B+": {{Name: "+ "}},
		"%C3=%A9": {{Name: "\ufffd", Value: "\ufffd"}}, "%C3%A9": {{Name: "é"}}, "\xff=\xe2\x82": {{Name: "\ufffd", Value: "\ufffd"}}, "a;b=c": {{Name: "a;b", Value: "c"}}, "?a=b#c": {{Name: "?a", Value: "b#c"}}, " a = b ": {{Name: " a ", Value: " b "}}, "\t": {{Name: "\t"}},
	} {
		if got := link.Pairs(query); !slices.Equal(got, want) {
			t.Errorf("%q: %q; want %q", query, got, want)
		}
	}
	check := func(query string) {
		got := link.Pairs(query)
		if want := modelPairs(query); !slices.Equal(got, want) {
			t.Fatalf("%q: %q; want %q", query, got, want)
		}
	}
	texts(5, []string{"a", "=", "&", "+", "%", "2B", "\xff", "%26"}, check)
	everywhere(check)
}

// P12.15: what stays in a query, and what does not.
func TestQuery(t *testing.T) {
	for _, c := range []struct {
		l    []api.Attr
		want string
	}{
		{nil, ""}, {[]api.Attr{{}}, "="}, {[]api.Attr{{}, {}}, "=&="}, {[]api.Attr{{Name: "a", Value: "b"}}, "a=b"}, {[]api.Attr{{Name: "a"}, {Value: "b"}}, "a=&=b"},
		{[]api.Attr{{Name: "a b", Value: "+ "}}, "a+b=%2B+"}, {[]api.Attr{{Name: "&=", Value: "%41"}}, "%26%3D=%2541"}, {[]api.Attr{{Name: "é", Value: "\xff"}}, "%C3%A9=%EF%BF%BD"}, {[]api.Attr{{Name: "\xe2", Value: "\x82\xac"}}, "%EF%BF%BD=%EF%BF%BD%EF%BF%BD"},
		{[]api.Attr{{Name: "*-._", Value: "~!'()"}}, "*-._=%7E%21%27%28%29"}, {[]api.Attr{{Name: "azAZ09", Value: "`{@[/:"}}, "azAZ09=%60%7B%40%5B%2F%3A"}, {[]api.Attr{{Name: "\x00\t", Value: "\n\x7f"}}, "%00%09=%0A%7F"},
	} {
		if got := link.Query(c.l...); got != c.want {
			t.Errorf("%q: %q; want %q", c.l, got, c.want)
		}
	}
	everywhere(func(s string) {
		if got, want := link.Query(api.Attr{Name: s, Value: "x"}, api.Attr{Value: s}), modelQuery(api.Attr{Name: s, Value: "x"}, api.Attr{Value: s}); got != want {
			t.Fatalf("%q: %q; want %q", s, got, want)
		}
	})
}

// P12.17: Pairs of Query are the pairs, mended.
func TestPairsOfQuery(t *testing.T) {
	check := func(l ...api.Attr) {
		var want []api.Attr
		for _, a := range l {
			want = append(want, api.Attr{Name: utf.Mend(a.Name), Value: utf.Mend(a.Value)})
		}
		if got := link.Pairs(link.Query(l...)); !slices.Equal(got, want) {
			t.Fatalf("%q: %q", l, got)
		}
	}
	var some []string
	texts(2, []string{"a", "=", "&", "+", "%", "41", " ", "\xc3", "\xa9", "é", "\x00"}, func(s string) { some = append(some, s) })
	check()
	for i, name := range some {
		for j, value := range some {
			check(api.Attr{Name: name, Value: value})
			check(api.Attr{Name: name, Value: value}, api.Attr{}, api.Attr{Name: some[j], Value: some[i]})
		}
	}
	everywhere(func(s string) { check(api.Attr{Name: s, Value: s}, api.Attr{Value: s}) })
}
