package names_test

import (
	"regexp"
	"strings"
	"testing"

	"sieve/api"
	"sieve/names"
)

var (
	tagForm  = regexp.MustCompile(`\A[a-z][a-z0-9]{0,99}\z`)
	attrForm = regexp.MustCompile(`\A[a-z]([a-z0-9-]{0,98}[a-z0-9])?\z`)
)

// forms holds both calls against the chapter's words.
func forms(t *testing.T, s string) {
	t.Helper()
	if got := names.TagName(s); got != tagForm.MatchString(s) {
		t.Errorf("TagName(%q): %v", s, got)
	}
	if got := names.AttrName(s); got != attrForm.MatchString(s) {
		t.Errorf("AttrName(%q): %v", s, got)
	}
}

// P4.4: the chapter's examples.
func TestNameExamples(t *testing.T) {
	for s, want := range map[string][2]bool{
		"h1":        {true, true},
		"a":         {true, true},
		"data-x":    {false, true},
		"a--b":      {false, true},
		"my-tag":    {false, true},
		"-x":        {false, false},
		"x-":        {false, false},
		"-":         {false, false},
		"xml:lang":  {false, false},
		"":          {false, false},
		"1a":        {false, false},
		"P":         {false, false},
		"dIv":       {false, false},
		"a b":       {false, false},
		"a\n":       {false, false},
		"é":         {false, false},
		"a\xff":     {false, false},
		"\x00":      {false, false},
		"a_b":       {false, false},
		"aria-1":    {false, true},
		"a-1-":      {false, false},
		"href=":     {false, false},
		"ſ":         {false, false},
		"onclick":   {true, true},
		"a\u00adbc": {false, false},
	} {
		if got := [2]bool{names.TagName(s), names.AttrName(s)}; got != want {
			t.Errorf("%q: %v, not %v", s, got, want)
		}
	}
}

// P4.4: each byte at the beginning, in the middle, at the end, and alone.
func TestNameBytes(t *testing.T) {
	for c := range 256 {
		b := string([]byte{byte(c)})
		for _, s := range []string{b, b + "a", "a" + b, b + "aa", "a" + b + "a", "aa" + b, "a" + b + b, b + b} {
			forms(t, s)
		}
	}
	for _, s := range texts(5, "a", "z", "0", "9", "-", "A") {
		forms(t, s)
	}
}

// P4.4: names of 0, 1, MaxName and MaxName + 1 bytes.
func TestNameLengths(t *testing.T) {
	for n := range api.MaxName + 5 {
		want := n >= 1 && n <= api.MaxName
		for _, s := range []string{strings.Repeat("a", n), ("h" + strings.Repeat("1", n))[:n]} {
			if names.TagName(s) != want || names.AttrName(s) != want {
				t.Errorf("%d bytes: %v, %v", n, names.TagName(s), names.AttrName(s))
			}
		}
		if n < 2 {
			continue
		}
		if s := "a" + strings.Repeat("-", n-2) + "b"; names.AttrName(s) != want || names.TagName(s) != (n == 2) {
			t.Errorf("%d bytes with - between: %v, %v", n, names.TagName(s), names.AttrName(s))
		}
		if names.AttrName(strings.Repeat("a", n-1) + "-") {
			t.Errorf("%d bytes with - at the end", n)
		}
	}
	if s := strings.Repeat("é", 50); names.TagName(s) || names.AttrName(s) {
		t.Error("100 bytes of é")
	}
	if s := strings.Repeat("a", 1<<20); names.TagName(s) || names.AttrName(s) {
		t.Error("a long text")
	}
}

// P4.4: what begins with on, in lower case or not, whatever comes behind.
func TestEvent(t *testing.T) {
	for _, s := range []string{"on", "ON", "oN", "On", "onclick", "ONclick", "onion", "on-", "on\xff", "on x"} {
		if !names.Event(s) {
			t.Errorf("Event(%q): false", s)
		}
	}
	for _, s := range []string{"", "o", "O", "n", "no", " on", "xon", "ön", "o\u0274", "0n", "о\u043d", "\xeFn", "class"} {
		if names.Event(s) {
			t.Errorf("Event(%q): true", s)
		}
	}
	for a := range 256 {
		for b := range 256 {
			s := string([]byte{byte(a), byte(b)})
			if got := names.Event(s); got != (s == "on" || s == "oN" || s == "On" || s == "ON") {
				t.Errorf("Event(%q): %v", s, got)
			}
		}
	}
}

// P4.9: names that may be written are in lower case.
func TestWrittenInLowerCase(t *testing.T) {
	for _, s := range append(texts(4, "a", "Z", "1", "-", "É", "\xc1"), strings.Repeat("a", 99)+"A") {
		if (names.TagName(s) || names.AttrName(s)) && names.Lower(s) != s {
			t.Errorf("%q", s)
		}
	}
}
