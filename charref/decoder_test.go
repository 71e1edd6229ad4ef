package charref_test

import (
	"strings"
	"sync"
	"testing"

	"sieve/api"
	"sieve/charref"
	"sieve/utf"
)

// fed: feeds pieces and ends, and holds each answer, and what is held behind it, against the chapter's words.
func fed(t *testing.T, attr bool, pieces ...string) {
	t.Helper()
	d := charref.New(attr)
	all, out := "", ""
	for _, p := range pieces {
		got, e := d.Feed(p)
		all, out = all+utf.Mend(p), out+got
		if want := model(all, attr, false); e != api.OK || out != want.out || d.Held() != want.held {
			t.Fatalf("%q, %v, up to %q: %q, %d, held %d; not %q, held %d", pieces, attr, p, out, e, d.Held(), want.out, want.held)
		}
	}
	got, e := d.End()
	if want := charref.Decode(all, attr); e != api.OK || out+got != want || d.Held() != 0 {
		t.Fatalf("%q, %v, at the end: %q, %d, held %d; not %q", pieces, attr, out+got, e, d.Held(), want)
	}
}

// P6.4: pieces by hand, with what is told behind each, and what is held.
func TestDecoderByHand(t *testing.T) {
	type step struct {
		piece string
		out   string
		held  int
	}
	for _, c := range []struct {
		attr  bool
		steps []step
		left  string
	}{
		{false, []step{{"a&l", "a", 2}, {"t", "", 3}, {";b&n", "<b", 2}, {"ot", "", 4}, {"i", "", 5}}, "¬i"},
		{true, []step{{"a&l", "a", 2}, {"t", "", 3}, {"", "", 3}, {"=&no", "&lt=", 3}, {"t", "", 4}, {"i", "", 5}}, "&noti"},
		{false, []step{{"&", "", 1}, {"&", "&", 1}, {"&", "&", 1}, {"", "", 1}}, "&"},
		{false, []step{{"&#", "", 2}, {"x", "", 3}, {"g", "&#xg", 0}}, ""},
		{false, []step{{"&#", "", 2}, {"x", "", 3}}, "&#x"},
		{true, []step{{"&#x", "", 3}, {"0", "", 4}, {"0", "", 5}, {"4", "", 6}, {"1", "", 7}, {"", "", 7}, {";é", "Aé", 0}}, ""},
		{true, []step{{"&#00", "", 4}, {"0", "", 5}, {"&#0", "\ufffd", 3}, {"65", "", 5}}, "A"},
		{false, []step{{"&#1114", "", 6}, {"111", "", 9}, {"2", "", 10}, {"z", "\ufffdz", 0}}, ""},
		{false, []step{{"&#X10", "", 5}, {"ffff", "", 9}, {";", "\U0010ffff", 0}}, ""},
		{false, []step{{"é\xff", "é\ufffd", 0}, {"\xe2\x82", "\ufffd", 0}, {"\xac&no\xff", "\ufffd&no\ufffd", 0}}, ""},
		{true, []step{{"&not", "", 4}, {"\xc3", "¬\ufffd", 0}, {"\xa9", "\ufffd", 0}}, ""},
		{false, []step{{"", "", 0}, {"x", "x", 0}, {"", "", 0}}, ""},
		{false, []step{{"&NotEqual", "", 9}, {"Tilde", "", 14}, {";&NotEqual", "\u2242\u0338", 9}}, "&NotEqual"},
		{false, []step{{"&amp;&amp", "&", 4}, {"amp;", "&amp;", 0}}, ""},
	} {
		d := charref.New(c.attr)
		if d == nil || d.Held() != 0 {
			t.Fatal("New")
		}
		for _, s := range c.steps {
			if out, e := d.Feed(s.piece); out != s.out || e != api.OK || d.Held() != s.held {
				t.Errorf("%v: Feed(%q): %q, %d, held %d", c.steps, s.piece, out, e, d.Held())
			}
		}
		if out, e := d.End(); out != c.left || e != api.OK || d.Held() != 0 {
			t.Errorf("%v: End: %q, %d, held %d", c.steps, out, e, d.Held())
		}
	}
}

// P6.4, P6.8: texts of parts, cut at every place, and in pieces of one rune, with empty ones between.
func TestDecoderPieces(t *testing.T) {
	texts(2, func(s string) {
		for _, attr := range both {
			var runes []string
			for _, r := range strings.Split(s, "") {
				runes = append(runes, r, "")
			}
			for at := range len(s) + 1 { // within a character too: each piece is mended by itself
				fed(t, attr, s[:at], s[at:])
			}
			fed(t, attr, runes...)
		}
	})
}

// P6.4, P6.8: cut twice, at all pairs of bytes, characters cut too.
func TestDecoderCuts(t *testing.T) {
	for _, s := range []string{
		"x&notin;&notit;&no", "&#0065;&#x80&#x;&#", "é&eacute;\xff&copy=&lt", "&&amp;&#38;#65;", "&NotEqualTilde;&NotEqualTilde", "&#x110000;&#xDFFF", "&sup1&sup12&sup;&sup", "€&#128;€&",
	} {
		for i := range len(s) + 1 {
			for j := i; j <= len(s); j++ {
				for _, attr := range both {
					fed(t, attr, s[:i], s[i:j], s[j:])
				}
			}
		}
	}
}

// P6.8: valid texts, in whatever pieces, come to Decode of the whole.
func TestDecoderIsDecode(t *testing.T) {
	for _, s := range []string{"&notin;&no&", "&#x41;&#x&#9", "&amp&lt;=&"} {
		for cuts := range 1 << len(s) {
			for _, attr := range both {
				d := charref.New(attr)
				out, from := "", 0
				for at := range len(s) {
					if cuts>>at&1 == 1 {
						got, _ := d.Feed(s[from:at])
						out, from = out+got, at
					}
				}
				got, _ := d.Feed(s[from:])
				last, e := d.End()
				if out+got+last != charref.Decode(s, attr) || e != api.OK {
					t.Fatalf("%q cut by %b, %v: %q", s, cuts, attr, out+got+last)
				}
			}
		}
	}
}

// P6.8: every reference and beginning of one, cut once.
func TestDecoderAsked(t *testing.T) {
	for n, s := range asked() {
		if len(s) > 100 {
			continue
		}
		text := "&" + s
		d := charref.New(n%2 == 0)
		cut := n % len(text)
		a, _ := d.Feed(text[:cut])
		b, _ := d.Feed(text[cut:])
		held := d.Held()
		c, e := d.End()
		mended := utf.Mend(text[:cut]) + utf.Mend(text[cut:])
		if a+b+c != model(mended, n%2 == 0, true).out || held != model(mended, n%2 == 0, false).held || e != api.OK {
			t.Errorf("%q cut at %d: %q, %q, %q, held %d", text, cut, a, b, c, held)
		}
	}
}

// P6.4: digits without end, one by one: all of them are held, and the number is right.
func TestDecoderDigits(t *testing.T) {
	const many = 1 << 18
	for _, c := range []struct{ head, digit, last, want string }{
		{"&#", "0", "65;", "A"}, {"&#x", "0", "10FFFF;", "\U0010ffff"}, {"&#X", "0", "80", "€"}, {"&#", "0", "", "\ufffd"}, {"&#", "9", "", "\ufffd"},
		{"&#x", "f", ";", "\ufffd"}, {"&#x", "1", "g", "\ufffdg"}, {"&#6", "0", ";", "\ufffd"}, {"&#x0", "0", "e9é", "éé"}, {"&#", "0", "1114112 ", "\ufffd "},
	} {
		d := charref.New(true)
		d.Feed(c.head)
		for n := range many {
			if out, e := d.Feed(c.digit); out != "" || e != api.OK || d.Held() != len(c.head)+n+1 {
				t.Fatalf("%s and %d of %s: %q, %d, held %d", c.head, n, c.digit, out, e, d.Held())
			}
		}
		out, _ := d.Feed(c.last)
		left, e := d.End()
		if out+left != c.want || e != api.OK || d.Held() != 0 {
			t.Errorf("%s, %d of %s, %s: %q, %d", c.head, many, c.digit, c.last, out+left, e)
		}
	}
}

// P6.4: behind End it is over, whatever it held.
func TestDecoderOver(t *testing.T) {
	for _, s := range []string{"", "a", "&", "&no", "&#00", "&#x", "\xff"} {
		for _, attr := range both {
			d := charref.New(attr)
			d.Feed(s)
			d.End()
			for range 2 {
				for _, more := range []string{"", "a", "&l", ";"} {
					if out, e := d.Feed(more); out != "" || e != api.ErrOver || d.Held() != 0 {
						t.Errorf("%q: Feed(%q): %q, %d, held %d", s, more, out, e, d.Held())
					}
				}
				if out, e := d.End(); out != "" || e != api.ErrOver || d.Held() != 0 {
					t.Errorf("%q: End: %q, %d, held %d", s, out, e, d.Held())
				}
			}
		}
	}
	if out, e := charref.New(true).End(); out != "" || e != api.OK {
		t.Errorf("End of one that has been fed nothing: %q, %d", out, e)
	}
}

// P6.4, R5: a decoder that no call made.
func TestDecoderUnmade(t *testing.T) {
	for _, d := range []*charref.Decoder{nil, {}, new(charref.Decoder)} {
		for range 2 {
			if out, e := d.Feed("a&amp;&l"); out != "" || e != api.ErrMade || d.Held() != 0 {
				t.Errorf("Feed: %q, %d, held %d", out, e, d.Held())
			}
			if out, e := d.End(); out != "" || e != api.ErrMade || d.Held() != 0 {
				t.Errorf("End: %q, %d, held %d", out, e, d.Held())
			}
		}
	}
}

// R4: two decoders know nothing of each other, not even a copy of one.
func TestDecodersApart(t *testing.T) {
	a, b := charref.New(false), charref.New(true)
	a.Feed("&noti")
	c := *a
	if out, e := b.Feed("n;&not"); out != "n;" || e != api.OK || b.Held() != 4 {
		t.Errorf("another one: %q, %d, held %d", out, e, b.Held())
	}
	c.Feed("nva")
	c.Feed(";x&#99")
	c.End()
	if out, e := a.Feed("n;"); out != "∉" || e != api.OK || a.Held() != 0 {
		t.Errorf("beside a copy: %q, %d, held %d", out, e, a.Held())
	}
	if out, e := b.Feed("x"); out != "&notx" || e != api.OK {
		t.Errorf("in an attribute: %q, %d", out, e)
	}
}

// R4: the same answers by many goroutines at once, one iterator among them all.
func TestTogether(t *testing.T) {
	s := strings.Repeat("&notit;&#65&copy=\xff", 20)
	seq := charref.Refs(s, false)
	want := model(s, false, true)
	var all sync.WaitGroup
	for range 8 {
		all.Go(func() {
			n := 0
			for at, text := range seq {
				if at != want.refs[n].at || text != want.refs[n].text {
					t.Errorf("Refs: %d, %q", at, text)
				}
				n++
			}
			if got := charref.Decode(s, false); got != want.out || n != len(want.refs) {
				t.Errorf("Decode: %q; %d references", got, n)
			}
		})
	}
	all.Wait()
}
