package event_test

import (
	"math/rand"
	"slices"
	"testing"

	"sieve/api"
	"sieve/event"
)

// errno: ErrEventForm, or OK.
func errno(may bool) api.Errno {
	if may {
		return api.OK
	}
	return api.ErrEventForm
}

// P18.1: events of each kind, by hand.
func TestCheckByHand(t *testing.T) {
	for _, e := range []api.Event{
		text("x"), text(" "), text("\x00"), text("\ufffd"), text("é€\U0001F600"), text("<b>"),
		open("p"), open("a<b"), open("zé"), open("a\""), open("a="), open("param"), open("keygen"), open("frame"), open("brx"), open("script"), open("b", attr("=", "")), open("b", attr("a", ""), attr("b", "")), open("b", attr("é", "\n\x00")), open("b", attr("onclick", "x")),
		void("area"), void("base"), void("br"), void("col"), void("embed"), void("hr"), void("img"), void("input"), void("link"), void("meta"), void("source"), void("track"), void("wbr"), void("br", attr("a", "b"), attr("c", "d")),
		end("p"), end("br"), end("a<b"), end("zé"),
	} {
		if !mayBe(e) || event.Check(e) != api.OK {
			t.Errorf("%+v: %d", e, event.Check(e))
		}
		e.Attrs = append([]api.Attr{}, e.Attrs...) // empty is nil
		if event.Check(e) != api.OK {
			t.Errorf("%+v, with an empty list: %d", e, event.Check(e))
		}
	}
	for _, e := range impossible() {
		if mayBe(e) || event.Check(e) != api.ErrEventForm {
			t.Errorf("%+v: %d", e, event.Check(e))
		}
	}
}

// P18.1: all kinds with all fields.
func TestCheck(t *testing.T) {
	for _, kind := range []api.EventKind{-1 << 63, -2, -1, 0, 1, 2, 3, 4, 5, 256, 1<<63 - 1} {
		for _, name := range []string{"", "p", "br", "col", "param", "P", "bR", "p ", "1p", "é", "zé", "z\xff", "p/", "p>", "p\x00", "p\t", "p\n", "p\f", "p\r", "pP", "=", "p=", "<", " "} {
			for _, s := range []string{"", "x", " ", "\xff", "\xe2\x82", "\ufffd", "\x00"} {
				for _, attrs := range [][]api.Attr{nil, {}, {attr("a", "")}, {attr("a", "b"), attr("c", "d")}, {attr("a", ""), attr("a", "")}, {attr("", "")}, {attr("A", "")}, {attr("a b", "")}, {attr("=", "")}, {attr("a=", "")}, {attr("==", "")}, {attr("a", "\xff")}, {attr("a\xff", "")}, {attr("a", ""), attr("b\xff", "")}, {attr("é", "é")}, {attr("a/", "")}, {attr("a>", "")}, {attr("a\x00", "")}, {attr("a", "\x00")}} {
					e := api.Event{Kind: kind, Name: name, Text: s, Attrs: attrs}
					if got := event.Check(e); got != errno(mayBe(e)) {
						t.Errorf("Check(%+v): %d", e, got)
					}
				}
			}
		}
	}
}

// P18.1: every byte in a name, and at its beginning.
func TestCheckBytes(t *testing.T) {
	for b := range 256 {
		for _, name := range []string{string([]byte{byte(b)}), "a" + string([]byte{byte(b)}), string([]byte{byte(b)}) + "a", "a" + string([]byte{byte(b)}) + "a"} {
			for _, e := range []api.Event{open(name), void(name), end(name), text(name), open("b", attr(name, "")), void("br", attr("a", name))} {
				if got := event.Check(e); got != errno(mayBe(e)) {
					t.Errorf("Check(%+v): %d", e, got)
				}
			}
		}
	}
}

// P18.1: Equal of events one field of which is another one, of more and of fewer.
func TestEqualByHand(t *testing.T) {
	l := []api.Event{open("a", attr("href", "x"), attr("id", "y")), text("z"), end("a")}
	others := [][]api.Event{
		nil, l[:2], l[1:], append(slices.Clone(l), text("z")), {l[1], l[0], l[2]}, {l[0], l[2], l[1]},
		{void("a", l[0].Attrs...), l[1], l[2]}, {open("b", l[0].Attrs...), l[1], l[2]}, {open("a"), l[1], l[2]},
		{open("a", attr("href", "x")), l[1], l[2]}, {open("a", attr("id", "y"), attr("href", "x")), l[1], l[2]}, {open("a", attr("href", "X"), attr("id", "y")), l[1], l[2]}, {open("a", attr("href", "x"), attr("id", "y"), attr("", "")), l[1], l[2]}, {open("a", attr("title", "x"), attr("id", "y")), l[1], l[2]},
		{l[0], text("Z"), l[2]}, {l[0], text(""), l[2]}, {l[0], l[1], end("b")}, {l[0], l[1], open("a")}, {l[0], {Kind: 9, Text: "z"}, l[2]}, {l[0], {Text: "z", Name: "a"}, l[2]}, {l[0], {Text: "z", Attrs: []api.Attr{{}}}, l[2]},
	}
	for at, other := range others {
		if event.Equal(l, other) || event.Equal(other, l) {
			t.Errorf("%+v, %+v", l, other)
		}
		for n, third := range others {
			if event.Equal(other, third) != (at == n) {
				t.Errorf("%+v, %+v", other, third)
			}
		}
	}
	same := []api.Event{open("a", attr("href", "x"), attr("id", "y")), {Text: "z", Attrs: []api.Attr{}}, {Kind: api.EventClose, Name: "a", Attrs: []api.Attr{}}}
	if !event.Equal(l, same) || !event.Equal(same, l) || !event.Equal(l, l) || !event.Equal(nil, []api.Event{}) || !event.Equal(nil, nil) {
		t.Error("the same ones")
	}
}

// P18.1: Equal of any events, of their copies, and of their neighbours.
func TestEqual(t *testing.T) {
	r := rand.New(rand.NewSource(1))
	var all [][]api.Event
	for range 300 {
		all = append(all, someEvents(r))
	}
	for _, a := range all {
		for _, b := range all {
			if got, want := event.Equal(a, b), show(a) == show(b); got != want {
				t.Errorf("%+v\n%+v\n%v", a, b, got)
			}
		}
	}
}
