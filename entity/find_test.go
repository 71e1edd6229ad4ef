package entity_test

import (
	"strings"
	"testing"

	"sieve/api"
	"sieve/entity"
)

// P5.1: the chapter's examples.
func TestFindExamples(t *testing.T) {
	for name, want := range map[string]string{"amp": "&", "amp;": "&", "NotEqualTilde;": "\u2242\u0338", "alpha;": "\u03b1"} {
		if said, ok := entity.Find(name); !ok || string(said) != want {
			t.Errorf("Find(%q): %x, %v", name, said, ok)
		}
	}
	if said, ok := entity.Find("alpha"); ok || len(said) != 0 {
		t.Errorf("Find(alpha): %x, %v", said, ok)
	}
	for s, want := range map[string]pair{
		"notit;": {"not", "\u00ac"}, "notin;x": {"notin;", "\u2209"}, "notin": {"not", "\u00ac"}, "xyz": {}, "": {},
	} {
		if size, said := entity.Longest(s); size != len(want.name) || string(said) != want.means {
			t.Errorf("Longest(%q): %d, %x", s, size, said)
		}
	}
	for s, want := range map[string]bool{"": true, "noti": true, "notinva;": false, "amp": true, "amp;": false, "xyz": false} {
		if got := entity.Begins(s); got != want {
			t.Errorf("Begins(%q): %v", s, got)
		}
	}
}

// P5.1: names that are looked up by hand: the table's first and last, those with two runes, those that differ by their capitals alone.
func TestFindByHand(t *testing.T) {
	for name, want := range map[string]string{
		"AElig": "\u00c6", "AElig;": "\u00c6", "zwnj;": "\u200c", "Afr;": "\U0001d504", "zfr;": "\U0001d537",
		"ThickSpace;": "\u205f\u200a", "bne;": "=\u20e5", "fjlig;": "fj", "nvlt;": "<\u20d2",
		"Dagger;": "\u2021", "dagger;": "\u2020", "Prime;": "\u2033", "prime;": "\u2032", "Tab;": "\t", "NewLine;": "\n",
		"sup;": "\u2283", "sup1": "\u00b9", "sup1;": "\u00b9", "supe;": "\u2287", "frac12": "\u00bd", "there4;": "\u2234",
		"LT": "<", "lt": "<", "lt;": "<", "QUOT": "\"", "nbsp": "\u00a0", "shy": "\u00ad", "yuml": "\u00ff", "Yuml;": "\u0178",
	} {
		if said, ok := entity.Find(name); !ok || string(said) != want {
			t.Errorf("Find(%q): %x, %v", name, said, ok)
		}
	}
	for _, name := range []string{"", ";", "Yuml", "sup", "fjlig", "nvlt", "Tab", "tab;", "newline;", "aMP", "Amp;", "LArr;", "zwnj;;", "amp;amp", "&amp;", "am"} {
		if said, ok := entity.Find(name); ok || len(said) != 0 {
			t.Errorf("Find(%q): %x, %v", name, said, ok)
		}
	}
}

// P5.1: every text that is asked for, held against the chapter's words.
func TestFind(t *testing.T) {
	all := means()
	for _, s := range asked() {
		want, is := all[s]
		if said, ok := entity.Find(s); ok != is || string(said) != want || !ok && len(said) != 0 {
			t.Errorf("Find(%.40q): %x, %v", s, said, ok)
		}
	}
}

// P5.1: a name without a semicolon is one just if the table has it bare.
func TestBare(t *testing.T) {
	for _, e := range api.Entities() {
		if _, ok := entity.Find(e.Name); ok != e.Bare {
			t.Errorf("Find(%q): %v", e.Name, ok)
		}
		if _, ok := entity.Find(e.Name + ";"); !ok {
			t.Errorf("Find(%q): none", e.Name+";")
		}
	}
}

// P5.1, P5.3: of the names that a text begins with the longest; it is found, and no longer beginning is one.
func TestLongest(t *testing.T) {
	all := means()
	for _, s := range asked() {
		want := 0
		for n := range min(len(s), 40) + 1 {
			if _, ok := all[s[:n]]; ok {
				want = n
			}
		}
		size, said := entity.Longest(s)
		if size != want || string(said) != all[s[:want]] {
			t.Errorf("Longest(%.40q): %d, %x", s, size, said)
			continue
		}
		if again, ok := entity.Find(s[:size]); ok != (size > 0) || string(again) != string(said) {
			t.Errorf("Find(%q): %x, %v", s[:size], again, ok)
		}
	}
}

// P5.1: a text begins names that are longer than it, or none.
func TestBegins(t *testing.T) {
	all := pairs()
	for _, s := range asked() {
		want := false
		for _, p := range all {
			want = want || len(p.name) > len(s) && strings.HasPrefix(p.name, s)
		}
		if got := entity.Begins(s); got != want {
			t.Errorf("Begins(%.40q): %v", s, got)
		}
	}
}

// P5.3: where no longer name begins with the longest one, nothing that comes behind changes it.
func TestLongestIsSure(t *testing.T) {
	for _, p := range pairs() {
		if entity.Begins(p.name) {
			continue
		}
		for _, more := range behind {
			for _, s := range []string{p.name + more, p.name + p.name + more} {
				if size, said := entity.Longest(s); size != len(p.name) || string(said) != p.means {
					t.Errorf("Longest(%q): %d, %x", s, size, said)
				}
			}
		}
	}
	for _, s := range []string{"not", "sup", "amp", "notin"} { // where one does, what comes behind may
		if !entity.Begins(s) {
			t.Errorf("Begins(%q): false", s)
		}
	}
}

// P5.1: a text far longer than any name, asked again and again, as a text full of references is.
func TestLongText(t *testing.T) {
	s := "notin;" + strings.Repeat("amp;", 1<<22)
	for range 200 {
		if size, said := entity.Longest(s); size != 6 || string(said) != "\u2209" {
			t.Fatalf("Longest: %d, %x", size, said)
		}
		if _, ok := entity.Find(s); ok || entity.Begins(s) {
			t.Fatal("a long text is a name, or begins one")
		}
	}
}
