package names_test

import (
	"strings"
	"testing"

	"sieve/names"
)

// far: Distance by its definition: how often a byte must be put in, taken out or replaced, the first bytes looked at first.
func far(a, b string) int {
	switch {
	case a == "" || b == "":
		return len(a) + len(b)
	case a[0] == b[0]:
		return far(a[1:], b[1:])
	}
	return 1 + min(far(a[1:], b), far(a, b[1:]), far(a[1:], b[1:]))
}

// steps: all texts that come of one byte put in, taken out or replaced.
func steps(s, bytes string) []string {
	var out []string
	for at := range len(s) + 1 {
		for i := range len(bytes) {
			out = append(out, s[:at]+bytes[i:i+1]+s[at:])
			if at < len(s) {
				out = append(out, s[:at]+bytes[i:i+1]+s[at+1:])
			}
		}
		if at < len(s) {
			out = append(out, s[:at]+s[at+1:])
		}
	}
	return out
}

// P4.11: it is the least number of steps: no single step brings a text more than one nearer, and while it is not 0 some step brings it one nearer.
func TestDistanceIsTheLeast(t *testing.T) {
	all := texts(4, "a", "b", "\xff")
	for _, b := range texts(3, "a", "b", "\xff") {
		for _, a := range all {
			d := names.Distance(a, b)
			least := d
			for _, next := range steps(a, "ab\xff") {
				least = min(least, names.Distance(next, b))
			}
			if a == b && d != 0 || a != b && least != d-1 || least < d-1 {
				t.Fatalf("Distance(%q, %q): %d, but %d behind one step", a, b, d, least)
			}
		}
	}
}

// P4.11, P4.12: held against the definition, for all pairs of short texts; the same both ways; 0 of the same alone.
func TestDistance(t *testing.T) {
	all := texts(4, "a", "b", "c")
	for _, a := range all {
		for _, b := range all {
			d := names.Distance(a, b)
			if d != far(a, b) || d != names.Distance(b, a) || (d == 0) != (a == b) {
				t.Fatalf("Distance(%q, %q): %d, not %d", a, b, d, far(a, b))
			}
		}
	}
}

// P4.12: no way around is shorter.
func TestDistanceAround(t *testing.T) {
	all := texts(3, "a", "b", "c")
	for _, a := range all {
		for _, b := range all {
			direct := names.Distance(a, b)
			for _, c := range all {
				if way := names.Distance(a, c) + names.Distance(c, b); way < direct {
					t.Fatalf("%q, %q, %q: %d, but %d directly", a, c, b, way, direct)
				}
			}
		}
	}
}

// P4.11: bytes, not runes; capitals are others; texts that are empty; each text up to its first MaxName bytes.
func TestDistanceExamples(t *testing.T) {
	long := strings.Repeat("ab", 50)
	for _, c := range []struct {
		a, b string
		want int
	}{
		{"", "", 0},
		{"", "table", 5},
		{"table", "", 5},
		{"kitten", "sitting", 3},
		{"td", "dt", 2},
		{"P", "p", 1},
		{"é", "e", 2},
		{"é", "ê", 1},
		{"\xff", "\uFFFD", 3},
		{long, long, 0},
		{long, long + "x", 0},
		{long + "x", long + "yz", 0},
		{long, "", 100},
		{"", long + long, 100},
		{long + "x", long[:99], 1},
		{long + "x", "x", 100},
		{strings.Repeat("a", 1<<16), strings.Repeat("b", 1<<16), 100},
		{long, "x" + long, 2},
		{long, long[1:], 1},
		{long + long, long[1:] + "a", 2},
		{long, long[1:] + "a", 2},
		{long[:99] + "x", long, 1},
	} {
		if got := names.Distance(c.a, c.b); got != c.want {
			t.Errorf("Distance(%q, %q): %d, not %d", c.a, c.b, got, c.want)
		}
		if got := names.Distance(c.b, c.a); got != c.want {
			t.Errorf("Distance(%q, %q): %d, not %d", c.b, c.a, got, c.want)
		}
	}
}

// nearest: Near by its definition, over the chapter's table.
func nearest(name string) (string, int) {
	best, least := "", 1000
	for _, known := range all() {
		if d := names.Distance(lowered(name), known); d < least {
			best, least = known, d
		}
	}
	return best, least
}

// P4.11, P4.12: a known name is the nearest to itself, in capitals too.
func TestNearKnown(t *testing.T) {
	for _, name := range all() {
		for _, s := range []string{name, strings.ToUpper(name), strings.ToUpper(name[:1]) + name[1:]} {
			if got, d := names.Near(s); got != name || d != 0 {
				t.Errorf("Near(%q): %q, %d", s, got, d)
			}
		}
	}
}

// P4.11: of names that are as near the first one; texts that are far from all.
func TestNearExamples(t *testing.T) {
	for _, c := range []struct {
		name, want string
		far        int
	}{
		{"", "a", 1},
		{"x", "a", 1},
		{"X", "a", 1},
		{"h7", "h1", 1},
		{"H", "a", 1},
		{"divv", "div", 1},
		{"DIVV", "div", 1},
		{"spam", "span", 1},
		{"blokquote", "blockquote", 1},
		{"script", "script", 0},
		{"textaera", "textarea", 2},
		{"my-tag", "meta", 3},
		{"\xff\xff", "a", 2},
		{strings.Repeat("z", 100), "a", 100},
		{strings.Repeat("z", 200), "a", 100},
		{strings.Repeat("z", 100) + "a", "a", 100},
		{strings.Repeat("z", 99) + "a", "a", 99},
	} {
		if got, d := names.Near(c.name); got != c.want || d != c.far {
			t.Errorf("Near(%q): %q, %d, not %q, %d", c.name, got, d, c.want, c.far)
		}
	}
}

// P4.11: held against the definition, for the neighbours of many names.
func TestNear(t *testing.T) {
	for _, name := range []string{"a", "br", "h1", "td", "div", "samp", "tfoot", "figure", "optgroup", "blockquote"} {
		for _, s := range append(steps(name, "aT1\xff"), texts(2, "a", "H", "t", "\xc3")...) {
			want, far := nearest(s)
			if got, d := names.Near(s); got != want || d != far {
				t.Errorf("Near(%q): %q, %d, not %q, %d", s, got, d, want, far)
			}
		}
	}
}
