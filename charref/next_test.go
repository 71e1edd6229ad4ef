package charref_test

import (
	"strings"
	"testing"

	"sieve/api"
	"sieve/charref"
)

// answer is what Next answers.
type answer struct {
	says string
	size int
	sure bool
}

// next: Next's answer.
func next(s string, attr, end bool) answer {
	says, size, sure := charref.Next(s, attr, end)
	return answer{says, size, sure}
}

// both is each bool once.
var both = []bool{false, true}

// P6.2: the chapter's examples, and others by hand; none is a reference of no bytes.
func TestNextByHand(t *testing.T) {
	none, unsure := answer{"", 0, true}, answer{}
	for _, c := range []struct {
		s         string
		attr, end bool
		want      answer
	}{
		{"no", false, false, unsure}, {"not ", false, false, answer{"¬", 3, true}}, {"notx", true, false, none}, {"not", true, false, unsure},
		{"not", false, false, unsure}, {"not", true, true, answer{"¬", 3, true}}, {"not;", true, false, answer{"¬", 4, true}}, {"no", false, true, none},
		{"", false, false, unsure}, {"", true, true, none}, {" ", false, false, none}, {"&", false, false, none}, {";", false, false, none}, {"1", false, false, none},
		{"#", false, false, unsure}, {"#", false, true, none}, {"#x", false, false, unsure}, {"#X", true, true, none}, {"#x;", false, false, none}, {"#;", false, false, none},
		{"#xg", false, false, none}, {"#a", false, false, none}, {"##", false, false, none}, {"#xx4", false, false, none}, {"#-1;", false, false, none},
		{"#65", false, false, unsure}, {"#65", false, true, answer{"A", 3, true}}, {"#65;", false, false, answer{"A", 4, true}}, {"#65;;", true, false, answer{"A", 4, true}},
		{"#65a", true, false, answer{"A", 3, true}}, {"#65=", true, false, answer{"A", 3, true}}, {"#x41g", true, false, answer{"A", 4, true}}, {"#x41", true, false, unsure},
		{"#X4a;", false, false, answer{"J", 5, true}}, {"#0", false, false, unsure}, {"#0;", false, false, answer{"\ufffd", 3, true}}, {"#x80 ", false, false, answer{"€", 4, true}},
		{"#99999999999999999999", false, false, unsure}, {"#99999999999999999999&", false, false, answer{"\ufffd", 21, true}},
		{"notin", false, false, unsure}, {"notin", false, true, answer{"¬", 3, true}}, {"notin", true, true, none}, {"notin;", true, false, answer{"∉", 6, true}},
		{"notit;", false, false, answer{"¬", 3, true}}, {"notit;", true, false, none}, {"noti", true, false, unsure}, {"noti", true, true, none},
		{"amp", false, false, unsure}, {"amp=", true, false, none}, {"amp=", false, false, answer{"&", 3, true}}, {"amp1", true, true, none}, {"amp-", true, false, answer{"&", 3, true}},
		{"ampé", true, false, answer{"&", 3, true}}, {"amp\xff", true, false, answer{"&", 3, true}}, {"amp&", true, false, answer{"&", 3, true}}, {"amp\x00", true, false, answer{"&", 3, true}},
		{"alpha", false, true, none}, {"alpha", false, false, unsure}, {"alpha;", false, false, answer{"α", 6, true}}, {"alpha ", false, false, none},
		{"NotEqualTilde;x", true, false, answer{"\u2242\u0338", 14, true}}, {"NotEqualTilde", true, true, none}, {"nota", false, false, answer{"¬", 3, true}},
		{"sup", false, true, none}, {"sup1", false, false, unsure}, {"sup12", false, false, answer{"¹", 4, true}}, {"sup12", true, false, none},
	} {
		if got := next(c.s, c.attr, c.end); got != c.want {
			t.Errorf("Next(%q, %v, %v): %v, not %v", c.s, c.attr, c.end, got, c.want)
		}
	}
}

// P6.2: every text that is asked for, held against the chapter's words.
func TestNext(t *testing.T) {
	for _, s := range asked() {
		for _, attr := range both {
			says, size := whole(s, attr)
			want := answer{says, size, true}
			if got := next(s, attr, true); got != want {
				t.Errorf("Next(%.40q, %v, true): %v, not %v", s, attr, got, want)
			}
			if !sure(s, attr) {
				want = answer{}
			}
			if got := next(s, attr, false); got != want {
				t.Errorf("Next(%.40q, %v, false): %v, not %v", s, attr, got, want)
			}
		}
	}
}

// P6.2: every name, in text and in an attribute, with its semicolon and without one, with something behind it.
func TestNextNames(t *testing.T) {
	for _, e := range api.Entities() {
		means := table[e.Name+";"]
		for _, attr := range both {
			for _, more := range behind {
				if got, want := next(e.Name+";"+more, attr, false), (answer{means, len(e.Name) + 1, true}); got != want {
					t.Errorf("Next(%q, %v): %v", e.Name+";"+more, attr, got)
				}
			}
			if got := next(e.Name, attr, false); got != (answer{}) {
				t.Errorf("Next(%q, %v, false): %v", e.Name, attr, got)
			}
		}
		if !e.Bare {
			continue
		}
		for _, more := range []string{"q", "Q", "0", "9", "=", "=x", "q;"} { // no name goes on with these
			if got := next(e.Name+more, true, false); got != (answer{"", 0, true}) {
				t.Errorf("Next(%q) in an attribute: %v", e.Name+more, got)
			}
			if got := next(e.Name+more, false, false); got != (answer{means, len(e.Name), true}) {
				t.Errorf("Next(%q) in text: %v", e.Name+more, got)
			}
		}
		for _, more := range []string{" ", "-", "_", "&", "\"", "<", "é", "\xff", "\x00", "\r", "٣"} {
			for _, attr := range both {
				if got := next(e.Name+more, attr, false); got != (answer{means, len(e.Name), true}) {
					t.Errorf("Next(%q, %v): %v", e.Name+more, attr, got)
				}
			}
		}
	}
}

// P6.10: what is sure stays, whatever follows; at the end all is sure; what is not sure, something changes.
func TestNextSure(t *testing.T) {
	some := []string{"", ";", "a", "x", "1", "=", " ", "&amp;", "in;", "\xff", "\x80", "é"}
	for n, s := range asked() {
		for _, attr := range both {
			first := next(s, attr, false)
			if !next(s, attr, true).sure {
				t.Errorf("Next(%.40q, %v, true): not sure", s, attr)
			}
			if !first.sure || n%7 != 0 && !strings.HasPrefix(s, "no") && !strings.HasPrefix(s, "#") {
				continue
			}
			for _, more := range some {
				for _, end := range both {
					if got := next(s+more, attr, end); got != first {
						t.Errorf("Next(%.40q, %v, false): %v; with %q behind it, %v: %v", s, attr, first, more, end, got)
					}
				}
			}
		}
	}
}

// P6.11: what is said in an attribute is said in text.
func TestNextAttributes(t *testing.T) {
	for _, s := range asked() {
		for _, end := range both {
			if in := next(s, true, end); in.size > 0 && next(s, false, end) != in {
				t.Errorf("Next(%.40q): in an attribute %v, in text %v", s, in, next(s, false, end))
			}
		}
	}
}

// P6.2, R1: a text far longer than any reference.
func TestNextLong(t *testing.T) {
	long := strings.Repeat("amp;", 1<<22)
	for range 100 {
		if got := next(long, true, false); got != (answer{"&", 4, true}) {
			t.Fatalf("Next: %v", got)
		}
	}
	if got := next("#"+strings.Repeat("0", 1<<22)+"65;"+long, true, false); got != (answer{"A", 1<<22 + 4, true}) {
		t.Errorf("Next of many digits: %v", got)
	}
	if got := next(strings.Repeat("a", 1<<22), false, false); got != (answer{"", 0, true}) {
		t.Errorf("Next of many letters: %v", got)
	}
}
