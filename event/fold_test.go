package event_test

import (
	"strings"
	"testing"

	"sieve/api"
	"sieve/event"
)

// P18.4: runs of texts, empty ones among them, by hand.
func TestMergeByHand(t *testing.T) {
	for _, c := range [][2]string{
		{"", ""}, {"'a", "'a"}, {"'_", ""}, {"'_ '_", ""}, {"'a 'b", "'ab"}, {"'a 'b 'c", "'abc"}, {"'a '_ 'b", "'ab"}, {"'_ 'a '_ '_ 'b '_", "'ab"},
		{"+p 'a 'b -p 'c 'd", "+p 'ab -p 'cd"}, {"'a +p 'b -p 'c", "'a +p 'b -p 'c"}, {"'a =br 'b", "'a =br 'b"}, {"'_ =br '_", "=br"}, {"'a +p '_ -p 'b", "'a +p -p 'b"}, {"'a 'b +p 'c '_ 'd", "'ab +p 'cd"},
		{"=br =br +p +p -b -b", "=br =br +p +p -b -b"}, {"+br -B =p 'a 'b +", "+br -B =p 'ab +"}, // not well nested, and what may not be
	} {
		if got := event.Merge(parts(c[0])...); show(got) != show(parts(c[1])) {
			t.Errorf("Merge(%s): %+v", c[0], got)
		}
	}
}

// P18.4: events that may not be stay as they are; nothing is mended, and what is no text is none by its Text.
func TestMergeImpossible(t *testing.T) {
	for _, bad := range impossible() {
		for _, l := range [][]api.Event{{bad}, {bad, bad}, {text("a"), bad}, {bad, text("a")}, {text("a"), text("b"), bad, text("c"), text("d")}, {open("b"), bad, end("b")}} {
			if got := event.Merge(l...); show(got) != show(merged(l)) {
				t.Errorf("Merge(%+v): %+v", l, got)
			}
		}
	}
	l := []api.Event{text("\xe2\x82"), text("\xac"), {Kind: 7, Text: "x"}, {Kind: 7, Text: "y"}, {Kind: api.EventClose, Text: "x"}, {Kind: api.EventClose, Text: "y"}}
	if got := event.Merge(l...); show(got) != show([]api.Event{text("\u20ac"), l[2], l[3], l[4], l[5]}) {
		t.Errorf("Merge: %#v", got)
	}
	// What a text may not have is that of the first one that stays.
	l = []api.Event{{Name: "gone"}, {Text: "a", Name: "n", Attrs: []api.Attr{attr("x", "y")}}, {Text: "b", Name: "m"}}
	if got := event.Merge(l...); len(got) != 1 || got[0].Text != "ab" || got[0].Name != "n" || show(got[0].Attrs) != show(l[1].Attrs) {
		t.Errorf("Merge: %+v", got)
	}
}

// treesOf: trees as a text: an element with its attributes and, in braces, its kids.
func treesOf(l []api.Node) string {
	var out []string
	for _, n := range l {
		s := "'" + n.Text
		if n.Name != "" {
			s = n.Name
			for _, a := range n.Attrs {
				s += "[" + a.Name + "=" + a.Value + "]"
			}
			if len(n.Kids) > 0 {
				s += "{" + treesOf(n.Kids) + "}"
			}
			s += n.Text // an element has none
		}
		out = append(out, s)
	}
	return strings.Join(out, " ")
}

// P18.5: the chapter's example, and others by hand.
func TestFoldByHand(t *testing.T) {
	for _, c := range []struct {
		line, trees string
		err         api.Errno
	}{
		{"+p 'a 'b -p =br", "p{'ab} br", api.OK}, {"+p", "", api.ErrEventNest}, {"", "", api.OK}, {"'a", "'a", api.OK}, {"'a 'b", "'ab", api.OK}, {"=br", "br", api.OK}, {"=br =hr", "br hr", api.OK},
		{"+p -p", "p", api.OK}, {"+p -p +p -p", "p p", api.OK}, {"+p +b -b -p", "p{b}", api.OK}, {"+p +p -p -p", "p{p}", api.OK}, {"+p +b -b +i -i -p", "p{b i}", api.OK}, {"+a +b +c 'x -c -b -a 'y", "a{b{c{'x}}} 'y", api.OK},
		{"'a 'b +p 'c 'd =br 'e 'f -p 'g 'h", "'ab p{'cd br 'ef} 'gh", api.OK}, {"+p -p 'a", "p 'a", api.OK}, {"'a +p -p", "'a p", api.OK},
		{"+p 'a", "", api.ErrEventNest}, {"+p +b -b", "", api.ErrEventNest}, {"=br +p", "", api.ErrEventNest}, {"-p", "", api.ErrEventNest}, {"+p -b", "", api.ErrEventNest}, {"+p -p -p", "", api.ErrEventNest},
		{"'_", "", api.ErrEventForm}, {"'a '_ 'b", "", api.ErrEventForm}, {"+p '_", "", api.ErrEventForm}, {"+p -p =p", "", api.ErrEventForm}, {"+br", "", api.ErrEventForm}, {"-p '_", "", api.ErrEventNest},
	} {
		if got, err := event.Fold(parts(c.line)...); treesOf(got) != c.trees || err != c.err {
			t.Errorf("Fold(%s): %s, %d", c.line, treesOf(got), err)
		}
	}
	l := []api.Event{open("a", attr("href", "x"), attr("id", "y")), void("img", attr("src", "z")), end("a"), open("b"), end("b")}
	if got, err := event.Fold(l...); treesOf(got) != "a[href=x][id=y]{img[src=z]} b" || err != api.OK {
		t.Errorf("Fold: %s, %d", treesOf(got), err)
	}
}
