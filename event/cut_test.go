package event_test

import (
	"slices"
	"strings"
	"testing"

	"sieve/api"
	"sieve/event"
)

// P18.12: Trim by hand: at depths below 0, of 0, at Depth and above it.
func TestTrimByHand(t *testing.T) {
	for _, c := range []struct {
		depth     int
		line, out string
		err       api.Errno
	}{
		{0, "", "", api.OK}, {0, "'a", "'a", api.OK}, {0, "=br", "", api.OK}, {1, "=br", "=br", api.OK}, {0, "+p -p", "", api.OK}, {1, "+p -p", "+p -p", api.OK}, {0, "+p", "", api.OK}, {1, "+p", "+p", api.OK},
		{0, "'a +p 'b +b 'c -b =br -p 'd =hr 'e", "'a 'd 'e", api.OK}, {1, "'a +p 'b +b 'c -b =br -p 'd =hr 'e", "'a +p 'b -p 'd =hr 'e", api.OK}, {2, "'a +p 'b +b 'c -b =br -p 'd =hr 'e", "'a +p 'b +b 'c -b =br -p 'd =hr 'e", api.OK},
		{2, "+a +b +c +d 'x -d -c =br 'y -b =hr -a", "+a +b 'y -b =hr -a", api.OK}, {3, "+a +b +c +d 'x -d -c =br 'y -b =hr -a", "+a +b +c -c =br 'y -b =hr -a", api.OK}, {4, "+a +b +c +d 'x -d -c =br 'y -b =hr -a", "+a +b +c +d 'x -d -c =br 'y -b =hr -a", api.OK},
		{1, "+a 'x +b 'y", "+a 'x", api.OK}, {0, "+a 'x +b 'y", "", api.OK}, {1, "+a +b -b", "+a", api.OK}, {1, "+a +b -b +c 'z -c 'y", "+a 'y", api.OK}, {1, "+a 'x +b -b 'y -a", "+a 'x 'y -a", api.OK}, {1, "+p +p 'x -p -p", "+p -p", api.OK},
		{1 << 62, "+a =br -a", "+a =br -a", api.OK}, {1<<63 - 1, "+a =br", "+a =br", api.OK},
		{-1, "+a", "", api.ErrArg}, {-1 << 63, "", "", api.ErrArg}, {-1, "-a", "", api.ErrArg}, {-1, "'_", "", api.ErrArg},
		{0, "-a", "", api.ErrEventNest}, {0, "'x '_", "", api.ErrEventForm}, {0, "+a +b -a", "", api.ErrEventNest}, {0, "+a +br", "", api.ErrEventForm}, {0, "+a =b", "", api.ErrEventForm}, {9, "+a -a -a", "", api.ErrEventNest},
	} {
		got, err := event.Trim(c.depth, parts(c.line)...)
		if show(got) != show(parts(c.out)) || err != c.err {
			t.Errorf("Trim(%d, %s): %+v, %d", c.depth, c.line, got, err)
		}
	}
	l := []api.Event{open("a", attr("href", "x")), void("img", attr("src", "y")), end("a")}
	if got, err := event.Trim(2, l...); show(got) != show(l) || err != api.OK {
		t.Errorf("Trim: %+v, %d", got, err)
	}
}

// P18.12: Wrap by hand; what is wrong in the order of its errors.
func TestWrapByHand(t *testing.T) {
	for _, c := range []struct {
		name, line string
		err        api.Errno
	}{
		{"p", "", api.OK}, {"p", "'a", api.OK}, {"p", "+p -p", api.OK}, {"a<b", "+b 'x =br -b 'y", api.OK}, {"param", "=br", api.OK},
		{"br", "", api.ErrEventForm}, {"wbr", "'a", api.ErrEventForm}, {"", "", api.ErrEventForm}, {"P", "", api.ErrEventForm}, {"a b", "", api.ErrEventForm}, {"p\xff", "", api.ErrEventForm}, {"/", "", api.ErrEventForm},
		{"br", "+p", api.ErrEventForm}, {"br", "-p", api.ErrEventForm}, {"p", "+p", api.ErrEventNest}, {"p", "-p", api.ErrEventNest}, {"p", "-p +p", api.ErrEventNest}, {"p", "+p -b", api.ErrEventNest}, {"p", "+b -b +p", api.ErrEventNest}, {"p", "+p '_", api.ErrEventForm}, {"p", "'_ +p", api.ErrEventForm}, {"p", "-p '_", api.ErrEventNest},
	} {
		l := parts(c.line)
		got, err := event.Wrap(c.name, nil, l...)
		var want []api.Event
		if c.err == api.OK {
			want = append(append([]api.Event{open(c.name)}, l...), end(c.name))
		}
		if show(got) != show(want) || err != c.err {
			t.Errorf("Wrap(%q, %s): %+v, %d", c.name, c.line, got, err)
		}
	}
	attrs := []api.Attr{attr("href", "x\""), attr("=", ""), attr("é", "\n")}
	l := []api.Event{text("x"), open("b", attr("id", "y")), end("b")}
	if got, err := event.Wrap("a", attrs, l...); show(got) != show([]api.Event{open("a", attrs...), l[0], l[1], l[2], end("a")}) || err != api.OK {
		t.Errorf("Wrap: %+v, %d", got, err)
	}
	for _, attrs := range [][]api.Attr{{attr("", "")}, {attr("A", "")}, {attr("a", "1"), attr("b", ""), attr("a", "2")}, {attr("a b", "")}, {attr("a=", "")}, {attr("a", "\xff")}, {attr("a\xff", "")}, {attr("a>", "")}} {
		for _, line := range []string{"", "'a", "+p", "-p"} {
			if got, err := event.Wrap("a", attrs, parts(line)...); len(got) != 0 || err != api.ErrEventForm {
				t.Errorf("Wrap(a, %+v, %s): %+v, %d", attrs, line, got, err)
			}
		}
	}
	// Each event that may not be.
	for _, bad := range impossible() {
		if got, err := event.Wrap("a", nil, text("x"), bad); len(got) != 0 || err != api.ErrEventForm {
			t.Errorf("Wrap(a, %+v): %+v, %d", bad, got, err)
		}
		if bad.Kind == api.EventOpen && bad.Text == "" {
			if got, err := event.Wrap(bad.Name, bad.Attrs); len(got) != 0 || err != api.ErrEventForm {
				t.Errorf("Wrap(%+v): %+v, %d", bad, got, err)
			}
		}
	}
}

// P18.12: Paths by hand: nested elements, void ones, and none.
func TestPathsByHand(t *testing.T) {
	for _, c := range []struct {
		line, paths string
		err         api.Errno
	}{
		{"", "", api.OK}, {"'a", "", api.OK}, {"=br", "br", api.OK}, {"+p", "p", api.OK}, {"+p -p", "p", api.OK}, {"+p =br +b 'x =hr -b =br -p =br +i", "p p/br p/b p/b/hr p/br br i", api.OK}, {"+a +a +a -a +a", "a a/a a/a/a a/a/a", api.OK}, {"+a<b +z\"", "a<b a<b/z\"", api.OK},
		{"-p", "", api.ErrEventNest}, {"+p -b", "", api.ErrEventNest}, {"+p '_", "", api.ErrEventForm}, {"+p =b", "", api.ErrEventForm}, {"+p -p -p", "", api.ErrEventNest},
	} {
		if got, err := event.Paths(parts(c.line)...); strings.Join(got, " ") != c.paths || err != c.err || len(got) != len(strings.Fields(c.paths)) {
			t.Errorf("Paths(%s): %q, %d", c.line, got, err)
		}
	}
}

// P18.12: one more of everything: wide lists, whose events are all kept apart.
func TestWide(t *testing.T) {
	var l []api.Event
	for range 50000 {
		l = append(l, open("p"), text("x"), void("br"), end("p"))
	}
	if got, err := event.Paths(l...); len(got) != 100000 || got[99999] != "p/br" || err != api.OK {
		t.Errorf("Paths: %d, %d", len(got), err)
	}
	if got, err := event.Trim(1, l...); len(got) != 150000 || err != api.OK {
		t.Errorf("Trim: %d, %d", len(got), err)
	}
	if got, err := event.Wrap("div", nil, l...); len(got) != 200002 || !event.Equal(got[1:200001], l) || err != api.OK {
		t.Errorf("Wrap: %d, %d", len(got), err)
	}
	texts := slices.Repeat([]api.Event{text("ab")}, 200000)
	if got := event.Merge(texts...); len(got) != 1 || len(got[0].Text) != 400000 {
		t.Errorf("Merge: %d", len(got))
	}
	if got, err := event.Fold(texts...); len(got) != 1 || len(got[0].Text) != 400000 || err != api.OK {
		t.Errorf("Fold: %d, %d", len(got), err)
	}
	if got := event.Text(texts...); len(got) != 400000 {
		t.Errorf("Text: %d", len(got))
	}
}
