package event_test

import (
	"slices"
	"strconv"
	"strings"
	"testing"

	"sieve/api"
	"sieve/event"
)

// P18.2, P18.3: the chapter's examples, and others by hand.
func TestNestedByHand(t *testing.T) {
	for _, c := range []struct {
		line  string
		at    int
		err   api.Errno
		open  string
		depth int
		close string
	}{
		{"+b -i", 1, api.ErrEventNest, "", 0, ""}, {"+p =br +b", 0, api.OK, "p b", 2, "-b -p"}, {"=br", 0, api.OK, "", 1, ""},
		{"", 0, api.OK, "", 0, ""}, {"'x", 0, api.OK, "", 0, ""}, {"+p", 0, api.OK, "p", 1, "-p"}, {"+p -p", 0, api.OK, "", 1, ""},
		{"-p", 0, api.ErrEventNest, "", 0, ""}, {"-p +p", 0, api.ErrEventNest, "", 0, ""}, {"=br -br", 1, api.ErrEventNest, "", 0, ""}, {"+p -p -p", 2, api.ErrEventNest, "", 0, ""},
		{"+p +b -p", 2, api.ErrEventNest, "", 0, ""}, {"+p +b -b", 0, api.OK, "p", 2, "-p"}, {"+p +p -p", 0, api.OK, "p", 2, "-p"}, {"+p +b -b +i", 0, api.OK, "p i", 2, "-i -p"},
		{"'_", 0, api.ErrEventForm, "", 0, ""}, {"'x '_", 1, api.ErrEventForm, "", 0, ""}, {"-p '_", 0, api.ErrEventNest, "", 0, ""}, {"'_ -p", 0, api.ErrEventForm, "", 0, ""}, {"+b +br -i", 1, api.ErrEventForm, "", 0, ""}, {"-B", 0, api.ErrEventForm, "", 0, ""}, {"+p -P", 1, api.ErrEventForm, "", 0, ""},
		{"+p =br -p", 0, api.OK, "", 2, ""}, {"+p +b =br", 0, api.OK, "p b", 3, "-b -p"}, {"+p +b -b =br -p", 0, api.OK, "", 2, ""}, {"+p =br +b -b -p", 0, api.OK, "", 2, ""}, {"+p 'x", 0, api.OK, "p", 1, "-p"}, {"+a +b +c -c -b =br", 0, api.OK, "a", 3, "-a"},
		{"+a +b +c -c -b -a -a", 6, api.ErrEventNest, "", 0, ""},
	} {
		l := parts(c.line)
		if at, err := event.Nested(l...); at != c.at || err != c.err {
			t.Errorf("Nested(%s): %d, %d", c.line, at, err)
		}
		if open, err := event.Open(l...); strings.Join(open, " ") != c.open || err != c.err {
			t.Errorf("Open(%s): %q, %d", c.line, open, err)
		}
		if n, err := event.Depth(l...); n != c.depth || err != c.err {
			t.Errorf("Depth(%s): %d, %d", c.line, n, err)
		}
		if got, err := event.Close(l...); show(got) != show(parts(c.close)) || err != c.err {
			t.Errorf("Close(%s): %+v, %d", c.line, got, err)
		}
	}
}

// P18.2: each event that may not be, first, last, and behind and ahead of another fault.
func TestNestedImpossible(t *testing.T) {
	l := parts("+p 'x +b =br -b 'y -p =hr")
	for _, bad := range impossible() {
		for at := range len(l) + 1 {
			m := slices.Insert(slices.Clone(l), at, bad)
			for _, m := range [][]api.Event{m, append(slices.Clone(m), end("i")), append(slices.Clone(m), text(""))} {
				if n, err := event.Nested(m...); n != at || err != api.ErrEventForm {
					t.Errorf("%+v: %d, %d", m, n, err)
				}
			}
			if n, err := event.Nested(append(parts("+p -i"), m...)...); n != 1 || err != api.ErrEventNest {
				t.Errorf("%+v behind +p -i: %d, %d", m, n, err)
			}
		}
	}
}

// R2, R7: each call that answers Nested's error answers nothing else.
func TestNestedError(t *testing.T) {
	for _, c := range []struct {
		l   []api.Event
		err api.Errno
	}{
		{parts("+p 'x =br -b"), api.ErrEventNest}, {parts("+p 'x =br -p -p"), api.ErrEventNest}, {parts("+p 'x =br '_"), api.ErrEventForm}, {parts("'_"), api.ErrEventForm}, {parts("-p"), api.ErrEventNest},
	} {
		open, err := event.Open(c.l...)
		n, err2 := event.Depth(c.l...)
		closing, err3 := event.Close(c.l...)
		trees, err4 := event.Fold(c.l...)
		some, err5 := event.Trim(9, c.l...)
		wrapped, err6 := event.Wrap("b", nil, c.l...)
		ways, err7 := event.Paths(c.l...)
		if len(open)+n+len(closing)+len(trees)+len(some)+len(wrapped)+len(ways) != 0 {
			t.Errorf("%+v: %v %d %v %v %v %v %v", c.l, open, n, closing, trees, some, wrapped, ways)
		}
		for _, e := range []api.Errno{err, err2, err3, err4, err5, err6, err7} {
			if e != c.err {
				t.Errorf("%+v: %d, not %d", c.l, e, c.err)
			}
		}
	}
}

// P18.2, P18.3, P18.5, P18.7: elements within one another, very many.
func TestDeep(t *testing.T) {
	const most = 1 << 16
	var l []api.Event
	for n := range most - 1 {
		l = append(l, open("e"+strconv.Itoa(n%7)))
	}
	l = append(l, void("br"), text("x"))
	if n, err := event.Depth(l...); n != most || err != api.OK {
		t.Errorf("Depth: %d, %d", n, err)
	}
	if names, err := event.Open(l...); len(names) != most-1 || names[8] != "e1" || err != api.OK {
		t.Errorf("Open: %d, %d", len(names), err)
	}
	last, err := event.Close(l...)
	if len(last) != most-1 || last[most-2].Name != "e0" || err != api.OK {
		t.Fatalf("Close: %d, %d", len(last), err)
	}
	l = append(l, last...)
	if at, err := event.Nested(l...); at != 0 || err != api.OK {
		t.Errorf("Nested: %d, %d", at, err)
	}
	trees, err := event.Fold(l...)
	n := 0
	for ; len(trees) == 1; trees = trees[0].Kids {
		n++
	}
	if n != most-1 || len(trees) != 2 || trees[0].Name != "br" || trees[1].Text != "x" || err != api.OK {
		t.Errorf("Fold: %d, %+v, %d", n, trees, err)
	}
	s, err := event.Print(l...)
	if err != api.OK {
		t.Fatal(err)
	}
	if m, at, err := event.Parse(s); !event.Equal(m, l) || at != 0 || err != api.OK {
		t.Errorf("Parse: %d, %d, %d", len(m), at, err)
	}
	if m, err := event.Trim(3, l...); len(m) != 6 || err != api.OK {
		t.Errorf("Trim: %d, %d", len(m), err)
	}
}

// P18.6: all kinds, others too, texts that are mended, and names that are not.
func TestCountText(t *testing.T) {
	for _, c := range []struct {
		l     []api.Event
		count [4]int
		text  string
	}{
		{nil, [4]int{}, ""}, {parts("+p =br +b"), [4]int{0, 2, 0, 1}, ""}, {parts("+p 'a 'b -p =br 'c"), [4]int{3, 1, 1, 1}, "abc"}, {parts("'_ '_ -p -p -p"), [4]int{2, 0, 3, 0}, ""},
		{[]api.Event{{Kind: 4, Text: "x"}, {Kind: -1, Text: "x"}, {Kind: 1 << 62, Text: "x"}, {Kind: -1 << 63}}, [4]int{}, ""},
		{[]api.Event{{Kind: api.EventOpen, Text: "x"}, {Kind: api.EventClose, Text: "y"}, {Kind: api.EventVoid, Text: "z"}}, [4]int{0, 1, 1, 1}, ""},
		{[]api.Event{{Text: "x", Name: "n"}, text(""), text("\x00")}, [4]int{3, 0, 0, 0}, "x\x00"},
		{[]api.Event{text("a\xffb"), text("\xe2\x82"), text("\xac"), text("\xe2\x82a"), text("é")}, [4]int{5, 0, 0, 0}, "a\ufffdb\ufffd\ufffd\ufffdaé"}, // each one is mended alone
		{[]api.Event{text("\xf0\x9f"), open("b"), text("\x98\x80")}, [4]int{2, 1, 0, 0}, "\ufffd\ufffd\ufffd"},
	} {
		if got := event.Count(c.l...); got != c.count {
			t.Errorf("Count(%+v): %v", c.l, got)
		}
		if got := event.Text(c.l...); got != c.text {
			t.Errorf("Text(%+v): %q", c.l, got)
		}
	}
}
