package charref_test

import (
	"slices"
	"strings"
	"testing"

	"sieve/api"
	"sieve/charref"
	"sieve/utf"
)

// P6.3: the chapter's examples, and others by hand.
func TestDecodeByHand(t *testing.T) {
	for _, c := range []struct{ s, text, attr string }{
		{"&amp;&lt;&notit;&notin;", "&<¬it;∉", "&<&notit;∉"},
		{"a&copy=1", "a©=1", "a&copy=1"},
		{"&#x41;&#65&#0;&#x80;&#xD800;&#x110000;&#x;", "AA\ufffd€\ufffd\ufffd&#x;", "AA\ufffd€\ufffd\ufffd&#x;"},
		{"", "", ""}, {"&", "&", "&"}, {"&&&", "&&&", "&&&"}, {"&&amp;&", "&&&", "&&&"}, {"a&", "a&", "a&"}, {"& &a&", "& &a&", "& &a&"},
		{"&amp;amp;", "&amp;", "&amp;"}, {"&amp;lt;", "&lt;", "&lt;"}, {"&#38;#65;", "&#65;", "&#65;"}, {"&#x26;amp;", "&amp;", "&amp;"}, {"&amp&amp", "&&", "&&"}, {"&ampamp;", "&amp;", "&ampamp;"},
		{"&#&amp;", "&#&", "&#&"}, {"&#x&#x41;", "&#xA", "&#xA"}, {"&no&not", "&no¬", "&no¬"}, {"&noti&notin;", "¬i∉", "&noti∉"},
		{"&#13;&#1;&#xFFFE;", "\r\x01\ufffe", "\r\x01\ufffe"}, {"&NotEqualTilde;", "\u2242\u0338", "\u2242\u0338"}, {"&NotEqualTilde", "&NotEqualTilde", "&NotEqualTilde"},
		{"é&eacute;é", "ééé", "ééé"}, {"\xff&lt;\xe2\x82", "\ufffd<\ufffd", "\ufffd<\ufffd"}, {"&lt\xff", "<\ufffd", "<\ufffd"}, {"&\xe2\x82lt;", "&\ufffdlt;", "&\ufffdlt;"},
		{"\xf0\x80\x80", "\ufffd\ufffd\ufffd", "\ufffd\ufffd\ufffd"}, {"&LT&lT&Lt;", "<&lT&Lt;", "<&lT&Lt;"}, {"?a=1&b=2&copy=3&lt", "?a=1&b=2©=3<", "?a=1&b=2&copy=3<"},
	} {
		if got := charref.Decode(c.s, false); got != c.text {
			t.Errorf("Decode(%q) in text: %q, not %q", c.s, got, c.text)
		}
		if got := charref.Decode(c.s, true); got != c.attr {
			t.Errorf("Decode(%q) in an attribute: %q, not %q", c.s, got, c.attr)
		}
	}
}

// P6.3, P6.5, P6.7: texts of up to three parts, held against the chapter's words.
func TestDecode(t *testing.T) {
	texts(3, func(s string) {
		for _, attr := range both {
			want := model(s, attr, true)
			if got := charref.Decode(s, attr); got != want.out {
				t.Fatalf("Decode(%q, %v): %q, not %q", s, attr, got, want.out)
			}
			if got, n := charref.Clean(s, attr); got != want.clean || n != len(want.refs) {
				t.Fatalf("Clean(%q, %v): %q, %d, not %q, %d", s, attr, got, n, want.clean, len(want.refs))
			}
			k := 0
			for at, text := range charref.Refs(s, attr) {
				if k >= len(want.refs) || at != want.refs[k].at || text != want.refs[k].text {
					t.Fatalf("Refs(%q, %v): %d, %q, not %v", s, attr, at, text, want.refs)
				}
				k++
			}
			if k != len(want.refs) {
				t.Fatalf("Refs(%q, %v): %d, not %v", s, attr, k, want.refs)
			}
		}
	})
}

// P6.3: every text that is asked for, behind a &, and with texts around.
func TestDecodeAsked(t *testing.T) {
	for _, s := range asked() {
		for _, attr := range both {
			for _, text := range []string{"&" + s, "é\xff&" + s + "&lt"} {
				if got, want := charref.Decode(text, attr), model(text, attr, true).out; got != want {
					t.Errorf("Decode(%.40q, %v): %.40q, not %.40q", text, attr, got, want)
				}
			}
		}
	}
}

// P6.9: a text without & is itself, mended.
func TestDecodeWithout(t *testing.T) {
	for _, s := range []string{"", "a", "amp;", "#65;", "x\r\ny\x00", "é€\U0001F600", "\ufffd\ufffe", "\xff", "\xe2\x82", "a\xc3", "\xed\xa0\x80", "<b>\"'"} {
		for _, attr := range both {
			if got := charref.Decode(s, attr); got != utf.Mend(s) {
				t.Errorf("Decode(%q, %v): %q", s, attr, got)
			}
			if got, n := charref.Clean(s, attr); got != utf.Mend(s) || n != 0 {
				t.Errorf("Clean(%q, %v): %q, %d", s, attr, got, n)
			}
			for at, text := range charref.Refs(s, attr) {
				t.Errorf("Refs(%q, %v): %d, %q", s, attr, at, text)
			}
		}
	}
}

// P6.3: a long text, with many references, and with none that is one.
func TestDecodeLong(t *testing.T) {
	for _, c := range []struct{ s, want string }{
		{strings.Repeat("&", 1<<22), strings.Repeat("&", 1<<22)}, {strings.Repeat("&#65;", 1<<20), strings.Repeat("A", 1<<20)},
		{strings.Repeat("&#", 1<<21), strings.Repeat("&#", 1<<21)}, {strings.Repeat("&#x", 1<<20), strings.Repeat("&#x", 1<<20)},
		{strings.Repeat("x&lt;", 1<<14), strings.Repeat("x<", 1<<14)}, {"&" + strings.Repeat("a", 1<<22), "&" + strings.Repeat("a", 1<<22)},
		{"&#" + strings.Repeat("0", 1<<22) + "65", "A"},
	} {
		if got := charref.Decode(c.s, true); got != c.want {
			t.Errorf("Decode of %d bytes of %.10q: %d bytes", len(c.s), c.s, len(got))
		}
	}
}

// P6.5: references by hand, with their places in the mended text.
func TestRefsByHand(t *testing.T) {
	for _, c := range []struct {
		s    string
		attr bool
		want []ref
	}{
		{"é&lt;x&amp", false, []ref{{2, "&lt;", ""}, {7, "&amp", ""}}},
		{"\xff&lt;\xe2\x82&#65", true, []ref{{3, "&lt;", ""}, {10, "&#65", ""}}}, // each wrong piece has three bytes there
		{"\xf0\x80\x80&gt", false, []ref{{9, "&gt", ""}}},
		{"&copy=1&#x41g&notit;", false, []ref{{0, "&copy", ""}, {7, "&#x41", ""}, {13, "&not", ""}}},
		{"&copy=1&#x41g&notit;", true, []ref{{7, "&#x41", ""}}},
		{"&&amp;amp;&", false, []ref{{1, "&amp;", ""}}}, {"& &#x; &xyz;", false, nil}, {"", true, nil},
	} {
		var got []ref
		for at, text := range charref.Refs(c.s, c.attr) {
			got = append(got, ref{at, text, ""})
		}
		if !slices.Equal(got, c.want) {
			t.Errorf("Refs(%q, %v): %v", c.s, c.attr, got)
		}
	}
}

// P6.5, R3: Refs may be left anywhere, taken again, and nested.
func TestRefsAgain(t *testing.T) {
	s := "\xff&lt;é&amp&#65;&x&#x80 &copy="
	want := model(s, false, true).refs
	if len(want) != 5 {
		t.Fatalf("%v", want)
	}
	seq := charref.Refs(s, false)
	for n := range len(want) + 1 {
		k := 0
		for at, text := range seq {
			if k == n {
				break
			}
			if at != want[k].at || text != want[k].text {
				t.Errorf("left behind %d: %d, %q", n, at, text)
			}
			k++
		}
		if k != n {
			t.Errorf("left behind %d: %d", n, k)
		}
		calls := 0
		seq(func(int, string) bool {
			calls++
			return calls <= n
		})
		if calls != min(n+1, len(want)) {
			t.Errorf("left at %d: %d calls", n, calls)
		}
	}
	outer := 0
	for range seq {
		inner := 0
		for range seq {
			inner++
		}
		if inner != len(want) {
			t.Errorf("nested: %d", inner)
		}
		outer++
	}
	if outer != len(want) {
		t.Errorf("around: %d", outer)
	}
}

// P6.7: what Plain turns is turned where a reference said it, and nowhere else.
func TestCleanByHand(t *testing.T) {
	for _, c := range []struct {
		s    string
		want string
		n    int
	}{
		{"&#13;&#1;&amp", "\n\ufffd&", 3}, {"&#13;&#10;", "\n\n", 2}, {"\r\n\x01&#13", "\r\n\x01\n", 1}, {"&#0;&#xFFFE;&#x1FFFF;&#xFDD0;&#x7f;", strings.Repeat("\ufffd", 5), 5},
		{"&#x81;&#x9D;&#x80;", "\ufffd\ufffd€", 3}, {"\u0081\ufffe\x00&#9;&#12;&Tab;&NewLine;", "\u0081\ufffe\x00\t\f\t\n", 4}, {"&NotEqualTilde;", "\u2242\u0338", 1},
		{"&amp;#13;", "&#13;", 1}, {"& &x; &#;", "& &x; &#;", 0}, {"\xff&#11", "\ufffd\ufffd", 1}, {"", "", 0},
	} {
		for _, attr := range both {
			if got, n := charref.Clean(c.s, attr); got != c.want || n != c.n {
				t.Errorf("Clean(%q, %v): %q, %d", c.s, attr, got, n)
			}
		}
	}
	if got, n := charref.Clean("&copy=&#8", true); got != "&copy=\ufffd" || n != 1 {
		t.Errorf("in an attribute: %q, %d", got, n)
	}
}

// R3, R4: the table that api hands out may be changed; the answers stay.
func TestTableApart(t *testing.T) {
	clear(api.Entities())
	if got := charref.Decode("&amp;&notin;", true); got != "&∉" {
		t.Errorf("Decode: %q", got)
	}
}
