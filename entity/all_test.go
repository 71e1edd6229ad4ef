package entity_test

import (
	"slices"
	"strings"
	"testing"

	"sieve/entity"
)

// told: what All tells of a prefix, up to so many.
func told(prefix string, most int) []string {
	var out []string
	for name := range entity.All(prefix) {
		if len(out) == most {
			break
		}
		out = append(out, name)
	}
	return out
}

// beginning: the names that begin with a prefix, by the chapter's words.
func beginning(prefix string) []string {
	var out []string
	for _, p := range pairs() {
		if strings.HasPrefix(p.name, prefix) {
			out = append(out, p.name)
		}
	}
	return out
}

// P5.2: names that are looked up by hand, in the order of bytes: digits are ahead of a semicolon, letters behind it.
func TestAllByHand(t *testing.T) {
	for prefix, want := range map[string]string{
		"not": "not not; notin; notinva; notni;", "notin": "notin; notinva;", "notin;": "notin;", "notinva;": "notinva;", "amp": "amp amp;",
		"amp;": "amp;", "AM": "AMP AMP;", "Am": "", "am": "amp amp;", "sup": "sup1 sup1; sup2 sup2; sup3 sup3; sup; supe;", "sup1": "sup1 sup1;",
		"sigma": "sigma; sigmaf;", "theta": "theta; thetasym;", "comma": "comma; commat;", "pi": "pi; piv;", "alpha": "alpha;",
		"xyz": "", ";": "", "&": "", "&amp": "", "amp;;": "", "amp;x": "", "\xff": "", "z": "zeta; zfr; zwj; zwnj;", "T": "THORN THORN; Tab; Tau; Theta; ThickSpace;",
	} {
		if got := strings.Join(told(prefix, 999), " "); got != want {
			t.Errorf("All(%q): %s", prefix, got)
		}
	}
}

// P5.2, P5.4: the empty text begins all names; each is told once, and found.
func TestAllOfEmpty(t *testing.T) {
	got := told("", 9999)
	if want := beginning(""); !slices.Equal(got, want) {
		t.Errorf("All: %q", got)
	}
	all := means()
	for _, name := range got {
		if said, ok := entity.Find(name); !ok || string(said) != all[name] {
			t.Errorf("Find(%q): %x, %v", name, said, ok)
		}
		if size, _ := entity.Longest(name); size != len(name) {
			t.Errorf("Longest(%q): %d", name, size)
		}
	}
}

// P5.2: every text that is asked for.
func TestAll(t *testing.T) {
	for _, prefix := range asked() {
		if got, want := told(prefix, 9999), beginning(prefix); !slices.Equal(got, want) {
			t.Errorf("All(%.40q): %q, not %q", prefix, got, want)
		}
	}
}

// P5.2, R3: it may be left anywhere, taken again, and nested.
func TestAllAgain(t *testing.T) {
	for _, prefix := range []string{"", "s", "not", "amp;", "xyz"} {
		whole := beginning(prefix)
		seq := entity.All(prefix)
		for n := range len(whole) + 1 {
			k := 0
			for name := range seq {
				if k == n {
					break
				}
				if name != whole[k] {
					t.Fatalf("All(%q), left behind %d: %q", prefix, n, name)
				}
				k++
			}
			if k != n {
				t.Fatalf("All(%q): %d names, not %d", prefix, k, n)
			}
		}
		if got := slices.Collect(seq); !slices.Equal(got, whole) {
			t.Errorf("All(%q), again: %q", prefix, got)
		}
	}
	seq := entity.All("sup")
	outer := 0
	for range seq {
		if got := slices.Collect(seq); len(got) != 8 {
			t.Errorf("nested: %q", got)
		}
		outer++
	}
	if outer != 8 {
		t.Errorf("around: %d", outer)
	}
}

// P5.2: once it is left, no more is told, whether at a name or below one.
func TestAllLeft(t *testing.T) {
	for n := range len(beginning("")) {
		calls := 0
		entity.All("")(func(string) bool {
			calls++
			return calls <= n
		})
		if calls != n+1 {
			t.Fatalf("left at name %d: %d calls", n, calls)
		}
	}
}
