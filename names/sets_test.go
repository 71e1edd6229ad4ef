package names_test

import (
	"maps"
	"math"
	"slices"
	"strings"
	"testing"

	"sieve/api"
	"sieve/names"
)

const scope = "applet caption html marquee object table td template th"

// chapter: the table of the sets, as the chapter writes it.
var chapter = [16]string{
	api.SetVoid:        "area base br col embed hr img input link meta source track wbr",
	api.SetBare:        "area base br col embed hr img input link meta source track wbr basefont bgsound frame keygen param",
	api.SetRcdata:      "textarea title",
	api.SetRaw:         "iframe noembed noframes noscript style xmp",
	api.SetFormatting:  "a b big code em font i nobr s small strike strong tt u",
	api.SetHeading:     "h1 h2 h3 h4 h5 h6",
	api.SetBlock:       "address article aside blockquote center dd details dialog dir div dl dt fieldset figcaption figure footer form h1 h2 h3 h4 h5 h6 header hgroup hr li listing main menu nav ol p plaintext pre search section summary table ul xmp",
	api.SetImplied:     "dd dt li optgroup option p rb rp rt rtc",
	api.SetScope:       scope,
	api.SetListScope:   scope + " ol ul",
	api.SetButtonScope: scope + " button",
	api.SetTableScope:  "html table template",
	api.SetSpecial:     "address applet area article aside base basefont bgsound blockquote body br button caption center col colgroup dd details dir div dl dt embed fieldset figcaption figure footer form frame frameset h1 h2 h3 h4 h5 h6 head header hgroup hr html iframe img input keygen li link listing main marquee menu meta nav noembed noframes noscript object ol p param plaintext pre script search section select source style summary table tbody td template textarea tfoot th thead title tr track ul wbr xmp",
	api.SetMarker:      "applet caption marquee object td template th",
	api.SetTable:       "caption col colgroup tbody td tfoot th thead tr",
	api.SetAllow:       "a abbr address article aside b bdi bdo blockquote br caption center cite code col colgroup data dd del details dfn dialog div dl dt em figcaption figure footer h1 h2 h3 h4 h5 h6 header hgroup hr i img ins kbd label li main mark menu nav ol p pre q s samp search section small span strong sub summary sup table tbody td textarea tfoot th thead time tr u ul var wbr",
}

// allowable: those that DOC.md's words name as ones that a policy may allow.
const allowable = "a abbr b bdi bdo br cite code data del dfn em i img ins kbd label mark q s samp small span strong sub sup time u var wbr " +
	"address article aside blockquote center details dialog div dl dt dd figcaption figure footer h1 h2 h3 h4 h5 h6 header " +
	"hgroup hr li main menu nav ol p pre search section summary ul " +
	"table caption colgroup col thead tbody tfoot tr td th textarea"

// noSets: numbers that are no set.
var noSets = []api.Set{-1, 16, 17, 32, 256, 1 << 16, 1 << 32, -16, math.MinInt, math.MaxInt}

// rising: the names of a set by the chapter, in rising order.
func rising(set int) []string { return slices.Sorted(slices.Values(strings.Fields(chapter[set]))) }

// all: the names of all sets, in rising order, each once.
func all() []string {
	seen := map[string]int{}
	for set := range chapter {
		for _, name := range rising(set) {
			seen[name]++
		}
	}
	return slices.Sorted(maps.Keys(seen))
}

// around: a name, its capitals, and its neighbours: a byte less, more, changed, doubled, spaces about it.
func around(name string) []string {
	out := []string{name, strings.ToUpper(name), strings.ToUpper(name[:1]) + name[1:], name[:len(name)-1] + strings.ToUpper(name[len(name)-1:])}
	for at := range len(name) + 1 {
		for _, c := range []string{"", "a", "r", "1", "7", " ", "-", "\x00", "\xff", "é"} {
			out = append(out, name[:at]+c+name[at:])
			if at < len(name) {
				out = append(out, name[:at]+c+name[at+1:])
			}
		}
	}
	return append(out, " "+name, name+" ", " "+name+" ", name+" "+name, name[:1], name[1:], "\n"+name)
}

// asked: all names that the tests ask for.
func asked() []string {
	out := []string{"", " ", "x", "P", "script ", "br col", "area base", "svg", "math", strings.Repeat("a", 100), strings.Repeat("a", 101), "\xff"}
	for _, name := range all() {
		out = append(out, around(name)...)
	}
	for set := range chapter {
		out = append(out, chapter[set], strings.Join(rising(set), " "), strings.Join(rising(set)[:2], " "))
	}
	return out
}

// P4.5: the chapter's examples.
func TestSetExamples(t *testing.T) {
	if !names.In("p", api.SetBlock) || names.In("P", api.SetBlock) {
		t.Error("p in blocks")
	}
	if got := names.Sets("br"); !slices.Equal(got, []api.Set{api.SetVoid, api.SetBare, api.SetSpecial, api.SetAllow}) {
		t.Errorf("Sets(br): %v", got)
	}
}

// P4.5, P4.8: every name of every set, its neighbours and its capitals, held against the table; In, Sets and Count agree.
func TestIn(t *testing.T) {
	for _, name := range asked() {
		var want []api.Set
		var count [16]int
		for set := range chapter {
			has := slices.Contains(rising(set), name)
			if got := names.In(name, api.Set(set)); got != has {
				t.Errorf("In(%q, %d): %v", name, set, got)
			}
			if has {
				want = append(want, api.Set(set))
				count[set] = 1
			}
		}
		if got := names.Sets(name); !slices.Equal(got, want) {
			t.Errorf("Sets(%q): %v, not %v", name, got, want)
		}
		if got := names.Count(name); got != count {
			t.Errorf("Count(%q): %v, not %v", name, got, count)
		}
	}
}

// P4.5: what is no set has no name, and no list.
func TestNoSet(t *testing.T) {
	for _, set := range noSets {
		for _, name := range append(all(), "", " ") {
			if names.In(name, set) {
				t.Errorf("In(%q, %d): true", name, set)
			}
		}
		if l, e := names.List(set); len(l) != 0 || e != api.ErrNamesSet {
			t.Errorf("List(%d): %q, %d", set, l, e)
		}
		for i, name := range names.All(set) {
			t.Errorf("All(%d): %d, %q", set, i, name)
		}
	}
}

// P4.5, P4.7: the names of each set in rising order, with their numbers.
func TestList(t *testing.T) {
	for set := range chapter {
		want := rising(set)
		got, e := names.List(api.Set(set))
		if e != api.OK || !slices.Equal(got, want) {
			t.Errorf("List(%d): %q, %d", set, got, e)
		}
		n := 0
		for i, name := range names.All(api.Set(set)) {
			if i != n || name != want[n] {
				t.Errorf("All(%d): %d, %q", set, i, name)
			}
			n++
		}
		if n != len(want) {
			t.Errorf("All(%d): %d names", set, n)
		}
	}
}

// P4.5: all names that are in some set, rising, each once; P4.8: Sets has something of each of them.
func TestKnown(t *testing.T) {
	got := names.Known()
	if !slices.Equal(got, all()) {
		t.Errorf("Known: %q", got)
	}
	for _, name := range got {
		if len(names.Sets(name)) == 0 {
			t.Errorf("%q is in no set", name)
		}
	}
}

// P4.6: no name, a name twice, names in no set, all of them.
func TestCount(t *testing.T) {
	if got := names.Count(); got != [16]int{} {
		t.Errorf("of none: %v", got)
	}
	if got := names.Count([]string{}...); got != [16]int{} {
		t.Errorf("of an empty list: %v", got)
	}
	if got := names.Count("", "x", "BR", "br ", "\xff"); got != [16]int{} {
		t.Errorf("of names in no set: %v", got)
	}
	want := [16]int{api.SetVoid: 3, api.SetBare: 3, api.SetBlock: 1, api.SetImplied: 1, api.SetSpecial: 4, api.SetAllow: 4}
	if got := names.Count("br", "p", "x", "br", "br", "P"); got != want {
		t.Errorf("of br three times: %v, not %v", got, want)
	}
	got := names.Count(all()...)
	for set := range chapter {
		if got[set] != len(rising(set)) {
			t.Errorf("of all: %d of set %d, not %d", got[set], set, len(rising(set)))
		}
	}
}

// P4.7, R3: a walk may be left anywhere, begun again, and nested.
func TestAllAgain(t *testing.T) {
	for set := range chapter {
		want := rising(set)
		walk := names.All(api.Set(set))
		for most := range len(want) + 1 {
			var got []string
			for _, name := range walk {
				if len(got) == most {
					break
				}
				got = append(got, name)
			}
			if !slices.Equal(got, want[:most]) {
				t.Errorf("set %d, left behind %d: %q", set, most, got)
			}
		}
		for i, name := range walk {
			n := 0
			for j, inner := range walk {
				if inner != want[j] {
					t.Errorf("set %d, nested in %q: %q", set, name, inner)
				}
				n++
			}
			if n != len(want) || name != want[i] {
				t.Errorf("set %d, around: %d, %q", set, i, name)
			}
		}
	}
}

// R3: what is done with a list behind the call is not to be seen in any other answer; the names handed in stay.
func TestListsApart(t *testing.T) {
	scribble := func(l []string) {
		l = l[:cap(l)]
		for i := range l {
			l[i] = "scribble"
		}
	}
	walk := names.All(api.SetHeading)
	for set := range chapter {
		l, _ := names.List(api.Set(set))
		scribble(l)
		if l, _ := names.List(api.Set(set)); !slices.Equal(l, rising(set)) {
			t.Errorf("List(%d): %q", set, l)
		}
	}
	scribble(names.Known())
	if l := names.Known(); !slices.Equal(l, all()) {
		t.Errorf("Known: %q", l)
	}
	sets := names.Sets("br")
	sets = sets[:cap(sets)]
	clear(sets)
	if got := names.Sets("br"); !slices.Equal(got, []api.Set{api.SetVoid, api.SetBare, api.SetSpecial, api.SetAllow}) {
		t.Errorf("Sets: %v", got)
	}
	for i, name := range walk {
		if name != rising(int(api.SetHeading))[i] {
			t.Errorf("All: %q", name)
		}
	}
	room := []string{"br", "p", "x"}
	names.Count(room[:1]...)
	if !slices.Equal(room, []string{"br", "p", "x"}) {
		t.Errorf("Count changed %q", room)
	}
}

// within: has a set all names of another?
func within(t *testing.T, a, b api.Set) {
	t.Helper()
	l, _ := names.List(a)
	for _, name := range l {
		if !names.In(name, b) {
			t.Errorf("%q is in %d, but not in %d", name, a, b)
		}
	}
}

// P4.8: which set is within which, and which have nothing in common.
func TestSetsTogether(t *testing.T) {
	within(t, api.SetVoid, api.SetBare)
	within(t, api.SetScope, api.SetListScope)
	within(t, api.SetScope, api.SetButtonScope)
	within(t, api.SetHeading, api.SetBlock)
	for _, name := range names.Known() {
		if !names.TagName(name) {
			t.Errorf("%q may not be written", name)
		}
		if names.In(name, api.SetBlock) && names.In(name, api.SetFormatting) {
			t.Errorf("%q is a block and formatting", name)
		}
		if names.In(name, api.SetAllow) && (names.In(name, api.SetRaw) || names.In(name, api.SetRcdata) && name != "textarea") {
			t.Errorf("%q is allowable", name)
		}
	}
	if !names.In("textarea", api.SetAllow) || !names.In("textarea", api.SetRcdata) {
		t.Error("textarea")
	}
	if l, _ := names.List(api.SetAllow); !slices.Equal(l, slices.Sorted(slices.Values(strings.Fields(allowable)))) {
		t.Errorf("allowable: %q", l)
	}
}
