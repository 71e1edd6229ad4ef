package link_test

import (
	"slices"
	"strings"
	"testing"
	"unicode/utf8"

	"sieve/api"
	"sieve/link"
)

// one: a candidate.
func one(s, desc string) api.Candidate { return api.Candidate{Link: s, Desc: desc} }

// P12.13: candidates that are all good.
func TestSrcset(t *testing.T) {
	for v, want := range map[string][]api.Candidate{
		"": nil, " \t\n\f\r": nil, ",": nil, ", ,,\t,": nil, "a": {one("a", "")}, " a ": {one("a", "")}, ",a": {one("a", "")}, ",, ,a": {one("a", "")}, "a,": {one("a", "")}, "a,,,": {one("a", "")}, "a,b": {one("a,b", "")}, "a,,b": {one("a,,b", "")},
		"a, b": {one("a", ""), one("b", "")}, "a,\tb": {one("a", ""), one("b", "")}, "a,, ,b": {one("a", ""), one("b", "")}, "a ,b": {one("a", ""), one("b", "")}, "a , b": {one("a", ""), one("b", "")}, "a\r,\fb\n": {one("a", ""), one("b", "")},
		"a 1x": {one("a", "1x")}, "a 1x,b 2x": {one("a", "1x"), one("b", "2x")}, "a 1x, b 2x": {one("a", "1x"), one("b", "2x")}, "a\t\n 100w \r,,b": {one("a", "100w"), one("b", "")}, "a 1.5x,": {one("a", "1.5x")}, "a, 1x": {one("a", ""), one("1x", "")}, "a,b 1x": {one("a,b", "1x")}, "a 1x,,,b": {one("a", "1x"), one("b", "")},
		"a 123456789w": {one("a", "123456789w")}, "a 123456789.123456789x": {one("a", "123456789.123456789x")}, "a 0w, b 000x, c 0.0x": {one("a", "0w"), one("b", "000x"), one("c", "0.0x")},
		"\xff": {one("\ufffd", "")}, "a\vb": {one("a\vb", "")}, "a\u00a0b": {one("a\u00a0b", "")}, "(a,b": {one("(a,b", "")}, "(a, b": {one("(a", ""), one("b", "")},
	} {
		got, good := link.Srcset(v)
		if !slices.Equal(got, want) || !good {
			t.Errorf("%q: %q, %v; want %q", v, got, good, want)
		}
	}
}

// P12.13: candidates of which one is not good: all of them are told all the same.
func TestSrcsetNotGood(t *testing.T) {
	for v, want := range map[string][]api.Candidate{
		"data:,a b": {one("data:,a", "b")}, "a b": {one("a", "b")}, "a 1": {one("a", "1")}, "a x": {one("a", "x")}, "a w": {one("a", "w")}, "a 1X": {one("a", "1X")}, "a 1W": {one("a", "1W")}, "a 1h": {one("a", "1h")}, "a 1xx": {one("a", "1xx")}, "a 1.5w": {one("a", "1.5w")}, "a 1.x": {one("a", "1.x")}, "a .5x": {one("a", ".5x")}, "a 1.5": {one("a", "1.5")}, "a 1..5x": {one("a", "1..5x")}, "a 1.5.5x": {one("a", "1.5.5x")}, "a -1x": {one("a", "-1x")}, "a +1x": {one("a", "+1x")}, "a 1e3x": {one("a", "1e3x")}, "a １x": {one("a", "１x")}, "a .": {one("a", ".")}, "a .x": {one("a", ".x")},
		"a 1234567890w": {one("a", "1234567890w")}, "a 1234567890x": {one("a", "1234567890x")}, "a 1234567890.1x": {one("a", "1234567890.1x")}, "a 1.1234567890x": {one("a", "1.1234567890x")}, "a 123456789.123456789w": {one("a", "123456789.123456789w")},
		"a 1x 2x": {one("a", "1x 2x")}, "a  1w\t\r 2h  ": {one("a", "1w 2h")}, "a 1 x": {one("a", "1 x")}, "a b, c 1x": {one("a", "b"), one("c", "1x")}, "c 1x, a b": {one("c", "1x"), one("a", "b")}, "a, c 1x, a b, d": {one("a", ""), one("c", "1x"), one("a", "b"), one("d", "")},
		"a (b,c),d": {one("a", "(b,c)"), one("d", "")}, "a (b,c": {one("a", "(b,c")}, "a (b, c, d 1x": {one("a", "(b, c, d 1x")}, "a (b(c),d": {one("a", "(b(c)"), one("d", "")}, "a (b(c,)d),e": {one("a", "(b(c,)d)"), one("e", "")}, "a ),b": {one("a", ")"), one("b", "")}, "a )(,),b": {one("a", ")(,)"), one("b", "")}, "a ( , \t ) 1x ,b": {one("a", "( , ) 1x"), one("b", "")}, "a (": {one("a", "(")}, "a (,": {one("a", "(,")}, "a b(,)c,d": {one("a", "b(,)c"), one("d", "")}, "a ()(,),d": {one("a", "()(,)"), one("d", "")},
		"a 1x\xff": {one("a", "1x\ufffd")}, "a \xe2\x82": {one("a", "\ufffd")}, "a 1x\v": {one("a", "1x\v")}, "a 1\u00a0x": {one("a", "1\u00a0x")},
	} {
		got, good := link.Srcset(v)
		if !slices.Equal(got, want) || good {
			t.Errorf("%q: %q, %v; want %q", v, got, good, want)
		}
	}
}

// P12.13: all short texts of the signs that matter, rune by rune as the standard goes.
func TestSrcsetInAllOrders(t *testing.T) {
	check := func(v string) {
		got, good := link.Srcset(v)
		want, wantGood := modelSrcset(v)
		if !slices.Equal(got, want) || good != wantGood {
			t.Fatalf("%q: %q, %v; want %q, %v", v, got, good, want, wantGood)
		}
		for _, c := range got {
			if c.Link == "" || !utf8.ValidString(c.Link+"|"+c.Desc) {
				t.Fatalf("%q: %q", v, got)
			}
		}
	}
	texts(7, []string{"a", ",", " ", "(", ")"}, check)
	texts(5, []string{"a ", "1", "x", ".", "w", ","}, check)
	texts(3, []string{"a", ",", " ", "\t", "\n", "\f", "\r", "\v", "(", ")", "1x", "9w", "\xff", "\xe2\x82", "é", "\u00a0"}, check)
	for n := range 12 {
		for m := range 12 {
			for _, unit := range []string{"w", "x", ""} {
				check("a " + strings.Repeat("7", n) + unit)
				check("a " + strings.Repeat("7", n) + "." + strings.Repeat("0", m) + unit)
			}
		}
	}
	everywhere(check)
	everywhere(func(s string) { check("a " + s); check("a 1" + s); check("a 1x" + s + "b") })
}

// P12.13: candidates as a srcset.
func TestSet(t *testing.T) {
	for _, c := range []struct {
		l    []api.Candidate
		want string
	}{
		{nil, ""}, {[]api.Candidate{one("a", "")}, "a"}, {[]api.Candidate{one("a", "1x")}, "a 1x"}, {[]api.Candidate{one("a", ""), one("b", "2w"), one("c", "")}, "a, b 2w, c"}, {[]api.Candidate{{}}, ""}, {[]api.Candidate{{}, {}}, ", "}, {[]api.Candidate{one("", "1x")}, " 1x"},
		{[]api.Candidate{one("\xff", "\xe2\x82")}, "\ufffd \ufffd"}, {[]api.Candidate{one("\xe2", ""), one("\x82", "\xac")}, "\ufffd, \ufffd \ufffd"}, {[]api.Candidate{one("a,", " b ")}, "a,  b "},
	} {
		if got := link.Set(c.l...); got != c.want {
			t.Errorf("%q: %q; want %q", c.l, got, c.want)
		}
	}
}

// P12.17: Srcset of Set of good candidates is them.
func TestSrcsetOfSet(t *testing.T) {
	var some []api.Candidate
	for _, s := range []string{"a", "a,b", "/a?b=(c", "(", ")", "http://a/b,,c#d", "é", "1x", "\ufffd", "\v", "\u00a0"} {
		for _, desc := range []string{"", "1x", "1w", "123456789w", "0.5x", "000000001.000000002x"} {
			some = append(some, one(s, desc))
		}
	}
	check := func(l ...api.Candidate) {
		if got, good := link.Srcset(link.Set(l...)); !slices.Equal(got, l) || !good {
			t.Fatalf("%q: %q, %v", l, got, good)
		}
	}
	check()
	check(some...)
	for _, a := range some {
		check(a)
		for _, b := range some {
			check(a, b)
			check(b, a, a, b)
		}
	}
}
