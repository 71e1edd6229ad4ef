package names_test

import (
	"slices"
	"strings"
	"testing"

	"sieve/names"
)

// texts: all texts of up to so many of some pieces.
func texts(most int, pieces ...string) []string {
	out := []string{""}
	last := out
	for range most {
		var next []string
		for _, s := range last {
			for _, p := range pieces {
				next = append(next, s+p)
			}
		}
		out = append(out, next...)
		last = next
	}
	return out
}

// lowered: a text in lower case, letter by letter.
func lowered(s string) string {
	for i := range capitals {
		s = strings.ReplaceAll(s, capitals[i:i+1], smalls[i:i+1])
	}
	return s
}

// parted: the parts of a text between its blanks, but the empty ones.
func parted(s string) []string {
	one := strings.NewReplacer("\t", " ", "\n", " ", "\f", " ").Replace(s)
	return slices.DeleteFunc(strings.Split(one, " "), func(p string) bool { return p == "" })
}

// P4.2: the chapter's examples, and letters beyond ASCII, which stay.
func TestLowerExamples(t *testing.T) {
	for _, c := range [][2]string{
		{"", ""},
		{"ÄbC", "Äbc"},
		{"A-Z@[`{", "a-z@[`{"},
		{"İIıſ\u212aÉ", "İiıſ\u212aÉ"},
		{"A\xffB\xc3C\xe2\x84D\x00E", "a\xffb\xc3c\xe2\x84d\x00e"},
		{"\xc1\xda\xe1", "\xc1\xda\xe1"},
	} {
		if got := names.Lower(c[0]); got != c[1] {
			t.Errorf("Lower(%q): %q, not %q", c[0], got, c[1])
		}
	}
}

// P4.2, P4.9: byte by byte, whatever the text is; as long; in lower case once and for all.
func TestLower(t *testing.T) {
	var all []string
	for a := range 256 {
		all = append(all, string([]byte{byte(a)}))
		for b := range 256 {
			all = append(all, string([]byte{byte(a), byte(b)}))
		}
	}
	all = append(all, texts(4, "A", "Z", "a", "@", "é", "\xc3", "\x84", "\u212a")...)
	for _, s := range all {
		got := names.Lower(s)
		if got != lowered(s) {
			t.Fatalf("Lower(%q): %q", s, got)
		}
		if len(got) != len(s) || names.Lower(got) != got {
			t.Fatalf("Lower(%q): %q is not as long, or not in lower case", s, got)
		}
	}
}

// P4.2, P4.9: Fold is the equality of what is in lower case.
func TestFold(t *testing.T) {
	if names.Fold("İ", "i̇") || names.Fold("ſ", "s") || names.Fold("\u212a", "k") || names.Fold("É", "é") {
		t.Error("letters beyond ASCII fold")
	}
	if !names.Fold("DiV", "dIv") || names.Fold("@", "`") || names.Fold("[", "{") || names.Fold("a", "aa") || !names.Fold("", "") {
		t.Error("ordinary texts")
	}
	if !names.Fold("A\xff", "a\xff") || names.Fold("\xff", "\xfe") || names.Fold("\xff", "\uFFFD") {
		t.Error("bytes that are no UTF-8")
	}
	all := texts(3, "A", "a", "B", "b", "\xc1", "\xe1")
	for _, a := range all {
		for _, b := range all {
			if got := names.Fold(a, b); got != (lowered(a) == lowered(b)) || got != names.Fold(b, a) {
				t.Fatalf("Fold(%q, %q): %v", a, b, got)
			}
		}
	}
}

// P4.3: the chapter's examples.
func TestFieldsExamples(t *testing.T) {
	if got := names.Fields(" a\tb  c "); !slices.Equal(got, []string{"a", "b", "c"}) {
		t.Errorf("Fields: %q", got)
	}
	if got := names.Collapse(" a\tb  c "); got != "a b c" {
		t.Errorf("Collapse: %q", got)
	}
	if got := names.Trim(" \t\n\f a b \f\n\t "); got != "a b" {
		t.Errorf("Trim: %q", got)
	}
	for _, s := range []string{"\ra\r", "\u00a0a\u00a0", "\va\v", "\u0085a", "\x00a\x00", "\xffa\xff", "\u2028"} {
		if names.Trim(s) != s || names.Collapse(s) != s || !slices.Equal(names.Fields(s), []string{s}) {
			t.Errorf("no blank in %q, but %q, %q", s, names.Trim(s), names.Fields(s))
		}
	}
	for _, s := range []string{"", " ", "\t\n\f "} {
		if names.Trim(s) != "" || names.Collapse(s) != "" || len(names.Fields(s)) != 0 {
			t.Errorf("nothing but blanks in %q, but %q, %q", s, names.Trim(s), names.Fields(s))
		}
	}
}

// P4.3, P4.10: held against the parts between the blanks, in all short texts.
func TestFields(t *testing.T) {
	for _, s := range texts(5, " ", "\t", "\n", "\f", "\r", "a", "é", "\xa0", "\xc2") {
		want := parted(s)
		got := names.Fields(s)
		if !slices.Equal(got, want) {
			t.Fatalf("Fields(%q): %q", s, got)
		}
		one := names.Collapse(s)
		if one != strings.Join(want, " ") || names.Collapse(one) != one {
			t.Fatalf("Collapse(%q): %q", s, one)
		}
		for _, f := range got {
			if f == "" || strings.ContainsAny(f, blanks) {
				t.Fatalf("Fields(%q): %q", s, got)
			}
		}
		if got := names.Trim(s); got != strings.Trim(s, blanks) {
			t.Fatalf("Trim(%q): %q", s, got)
		}
	}
}

// P4.10: the fields of two texts with a blank between are the fields of both.
func TestFieldsOfTwo(t *testing.T) {
	all := texts(3, " ", "\f", "a", "\xff")
	for _, a := range all {
		for _, b := range all {
			for _, blank := range blanks {
				got := names.Fields(a + string(blank) + b)
				if !slices.Equal(got, append(names.Fields(a), names.Fields(b)...)) {
					t.Fatalf("%q, %q, %q: %q", a, blank, b, got)
				}
			}
		}
	}
}

// R3: what Fields answered stays, whatever is done with it or behind it.
func TestFieldsApart(t *testing.T) {
	const s = "a b c d e"
	one := names.Fields(s)
	two := names.Fields(s)
	_ = append(one[:1], "x", "y")
	clear(one[:cap(one)])
	if !slices.Equal(two, []string{"a", "b", "c", "d", "e"}) || !slices.Equal(names.Fields(s), two) {
		t.Errorf("%q, %q", two, names.Fields(s))
	}
}
