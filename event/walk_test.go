package event_test

import (
	"slices"
	"strconv"
	"strings"
	"testing"

	"sieve/api"
	"sieve/event"
)

// walked: what Walk tells, as a line: how many are open ahead of each event.
func walked(l []api.Event) string {
	var out []string
	for around, e := range event.Walk(l...) {
		out = append(out, strconv.Itoa(around)+e.Name+e.Text)
	}
	return strings.Join(out, " ")
}

// P18.8: by hand: how many are open, and where it ends.
func TestWalkByHand(t *testing.T) {
	for _, c := range [][2]string{
		{"", ""}, {"'a", "0a"}, {"=br", "0br"}, {"+p -p", "0p 1p"}, {"+p 'a 'b -p =br", "0p 1a 1b 1p 0br"}, {"+p +b =br 'x -b 'y -p 'z", "0p 1b 2br 2x 2b 1y 1p 0z"}, {"+p +b", "0p 1b"},
		{"-p", ""}, {"'_", ""}, {"'a -p 'b", "0a"}, {"+p -b -p", "0p"}, {"+p '_ -p", "0p"}, {"+p -p -p", "0p 1p"}, {"+p +br -p", "0p"}, {"+p =br =p", "0p 1br"}, {"'a 'b '_", "0a 0b"},
	} {
		if got := walked(parts(c[0])); got != c[1] {
			t.Errorf("Walk(%s): %s", c[0], got)
		}
	}
	for _, bad := range impossible() {
		if got := walked([]api.Event{open("p"), text("a"), bad, end("p")}); got != "0p 1a" {
			t.Errorf("Walk with %+v: %s", bad, got)
		}
	}
}

// P18.8: left at every place, and taken again: all is told anew.
func TestWalkLeft(t *testing.T) {
	l := parts("+p +b 'x -b =br -p 'y -i 'z")
	walk := event.Walk(l...)
	for most := range 9 {
		var got []api.Event
		if most > 0 {
			for _, e := range walk {
				got = append(got, e)
				if len(got) == most {
					break
				}
			}
		}
		if show(got) != show(l[:min(most, 7)]) {
			t.Errorf("left behind %d: %+v", most, got)
		}
	}
	// Walks within a walk, of the same one.
	var got []string
	for around, e := range walk {
		inner := 0
		for n, f := range walk {
			if f.Kind == e.Kind && n == around {
				inner++
			}
		}
		got = append(got, strconv.Itoa(inner))
	}
	if strings.Join(got, " ") != "1 1 1 1 1 1 1" {
		t.Errorf("%v", got)
	}
}

// R3: what Walk tells is as it was when it was asked for, and stays so, whatever is done to what it told.
func TestWalkKept(t *testing.T) {
	l := []api.Event{open("a", attr("href", "x"), attr("id", "y")), text("z"), void("br", attr("class", "v")), end("a")}
	want := show(l)
	walk := event.Walk(l...)
	scrawl(l)
	for range 3 {
		var got []api.Event
		for _, e := range walk {
			copied := e
			copied.Attrs = slices.Clone(e.Attrs)
			got = append(got, copied)
			scrawlAttrs(e.Attrs)
		}
		if show(got) != want {
			t.Errorf("%s\nnot\n%s", show(got), want)
		}
	}
	// Also within the first walk.
	l = []api.Event{open("a", attr("href", "x")), void("br", attr("class", "v")), end("a")}
	want = show(l)
	walk = event.Walk(l...)
	var got []api.Event
	for _, e := range walk {
		got = append(got, e)
		scrawl(l)
	}
	if show(got) != want {
		t.Errorf("%s\nnot\n%s", show(got), want)
	}
}
