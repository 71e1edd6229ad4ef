package event_test

import (
	"fmt"
	"math/rand"
	"slices"
	"sync"
	"testing"

	"sieve/api"
	"sieve/event"
)

// roomy: events in new memory, each list with room behind its end, in which something stands.
func roomy(l []api.Event) []api.Event {
	var out []api.Event
	for _, e := range l {
		n := len(e.Attrs)
		e.Attrs = append(slices.Clone(e.Attrs), attr("room", "1"), attr("href", "2"), attr("class", "3"))[:n]
		out = append(out, e)
	}
	return append(out, open("room"), text("room"))[:len(l)]
}

// allOf: events with all that stands in the room behind their lists' ends.
func allOf(l []api.Event) string {
	out := ""
	for _, e := range l[:cap(l)] {
		out += fmt.Sprintf("%+v %+v\n", e, e.Attrs[:cap(e.Attrs)])
	}
	return out
}

// scrawl changes all of some events, and the room behind.
func scrawl(l []api.Event) {
	l = l[:cap(l)]
	for at := range l {
		scrawlAttrs(l[at].Attrs)
		l[at] = api.Event{Kind: 9, Name: "scrawl", Text: "scrawl"}
	}
}

// scrawlAttrs changes all of some attributes, and the room behind.
func scrawlAttrs(l []api.Attr) {
	l = l[:cap(l)]
	for at := range l {
		l[at] = attr("scrawl", "scrawl")
	}
}

// scrawlTrees changes all of some trees, and the room behind.
func scrawlTrees(l []api.Node) {
	l = l[:cap(l)]
	for at := range l {
		scrawlTrees(l[at].Kids)
		scrawlAttrs(l[at].Attrs)
		l[at] = api.Node{Name: "scrawl", Text: "scrawl"}
	}
}

// scrawlNames changes all of some names, and the room behind.
func scrawlNames(l []string) {
	l = l[:cap(l)]
	for at := range l {
		l[at] = "scrawl"
	}
}

// answers of all calls.
type answers struct {
	told  [][]api.Event // of Close, Merge, Trim, Wrap, Parse and Walk
	names [][]string    // of Open and Paths
	trees []api.Node
	rest  string
}

// ask makes all calls.
func ask(l []api.Event, attrs []api.Attr) answers {
	var a answers
	keep := func(l []api.Event, err api.Errno) {
		a.told = append(a.told, l)
		a.rest += err.Error()
	}
	keep(event.Close(l...))
	keep(event.Merge(l...), 0)
	keep(event.Trim(1, l...))
	keep(event.Trim(99, l...))
	keep(event.Wrap("b", attrs, l...))
	s, _ := event.Print(l...)
	parsed, at, err := event.Parse(s)
	keep(parsed, err)
	var walked []api.Event
	for around, e := range event.Walk(l...) {
		walked = append(walked, e)
		at += around
	}
	keep(walked, 0)
	open, _ := event.Open(l...)
	paths, _ := event.Paths(l...)
	a.names = [][]string{open, paths}
	a.trees, _ = event.Fold(l...)
	a.rest += show(s, at, event.Count(l...), event.Text(l...), event.Equal(l, parsed))
	return a
}

// some lists of events, most of them complete.
func lists(r *rand.Rand, n int) [][]api.Event {
	var out [][]api.Event
	for range n {
		out = append(out, someTree(r, 4, 4), someNested(r), someEvents(r))
	}
	return out
}

// R3: nothing that is handed in is changed, nor the room behind it; and it is not kept: written over, it changes no answer.
func TestHandedIn(t *testing.T) {
	for _, l := range lists(rand.New(rand.NewSource(5)), 300) {
		want := show(ask(l, []api.Attr{attr("id", "x")}))
		l = roomy(l)
		attrs := append([]api.Attr{attr("id", "x")}, attr("room", "1"))[:1]
		was := allOf(l)
		got := ask(l, attrs)
		if allOf(l) != was || attrs[:2][1] != attr("room", "1") || attrs[0] != attr("id", "x") {
			t.Fatalf("changed:\n%s\nnot\n%s", allOf(l), was)
		}
		scrawl(l)
		scrawlAttrs(attrs)
		if show(got) != want {
			t.Fatalf("%s\nnot\n%s", show(got), want)
		}
	}
}

// R3: what is answered stays as it is, whatever is asked later and done to other answers; and written over, the room behind it
// too, it changes nothing.
func TestAnswered(t *testing.T) {
	for _, l := range lists(rand.New(rand.NewSource(6)), 300) {
		attrs := []api.Attr{attr("id", "x")}
		kept := ask(l, attrs)
		want := show(kept)
		other := ask(l, attrs)
		if show(other) != want {
			t.Fatalf("%s\nnot\n%s", show(other), want)
		}
		for _, told := range other.told {
			scrawl(told)
		}
		for _, names := range other.names {
			scrawlNames(names)
		}
		scrawlTrees(other.trees)
		if show(kept) != want || show(ask(l, attrs)) != want {
			t.Fatalf("changed: %s\nnot\n%s", show(kept), want)
		}
		// What is appended to a list stands in no other one.
		for _, told := range kept.told {
			_ = append(told, text("more"), text("more"))
			for _, e := range told {
				_ = append(e.Attrs, attr("more", ""))
			}
		}
		for _, names := range kept.names {
			_ = append(names, "more")
		}
		growTrees(kept.trees)
		if show(kept) != want {
			t.Fatalf("grown: %s\nnot\n%s", show(kept), want)
		}
	}
}

// growTrees appends to each list of some trees.
func growTrees(l []api.Node) {
	_ = append(l, api.Node{Name: "more"})
	for _, n := range l {
		_ = append(n.Attrs, attr("more", ""))
		growTrees(n.Kids)
	}
}

// R3: no two lists of the answers share memory, nor their spare room.
func TestListsApart(t *testing.T) {
	for _, l := range lists(rand.New(rand.NewSource(7)), 200) {
		events, attrs, nodes, names := map[*api.Event]bool{}, map[*api.Attr]bool{}, map[*api.Node]bool{}, map[*string]bool{}
		apartAttrs := func(l []api.Attr) {
			apart(t, attrs, l)
		}
		var apartTrees func(l []api.Node)
		apartTrees = func(l []api.Node) {
			apart(t, nodes, l)
			for _, n := range l {
				apartAttrs(n.Attrs)
				apartTrees(n.Kids)
			}
		}
		own := []api.Attr{attr("id", "x")}
		apart(t, events, l)
		apart(t, attrs, own)
		for _, e := range l {
			apartAttrs(e.Attrs)
		}
		for range 2 {
			a := ask(l, own)
			for _, told := range a.told {
				apart(t, events, told)
				for _, e := range told {
					apartAttrs(e.Attrs)
				}
			}
			for _, n := range a.names {
				apart(t, names, n)
			}
			apartTrees(a.trees)
		}
	}
}

// apart: nothing of a list, nor of the room behind it, has been seen.
func apart[T any](t *testing.T, seen map[*T]bool, l []T) {
	t.Helper()
	l = l[:cap(l)]
	for at := range l {
		if seen[&l[at]] {
			t.Fatal("two lists share memory")
		}
		seen[&l[at]] = true
	}
}

// R3: a list of attributes that is empty may have room: no answer has any of it.
func TestEmptyRoom(t *testing.T) {
	room := []api.Attr{attr("room", "1"), attr("room", "2")}
	l := []api.Event{open("b"), text("x"), void("br"), end("b"), {Kind: 9}}
	for at := range l {
		l[at].Attrs = room[:0]
	}
	for n := range len(l) + 1 {
		a := ask(l[:n], room[:0])
		for _, told := range a.told {
			for _, e := range told {
				_ = append(e.Attrs, attr("more", ""))
			}
			scrawl(told)
		}
		growTrees(a.trees)
		scrawlTrees(a.trees)
		if room[0] != attr("room", "1") || room[1] != attr("room", "2") {
			t.Fatal(room)
		}
	}
}

// R3: nil and empty lists are the same.
func TestNilAndEmpty(t *testing.T) {
	l := []api.Event{text("x"), open("b"), void("br"), end("b"), {Kind: 9}}
	empty := slices.Clone(l)
	for at := range empty {
		empty[at].Attrs = []api.Attr{}
	}
	for n := range len(l) + 1 {
		if got, want := show(ask(empty[:n], []api.Attr{})), show(ask(l[:n], nil)); got != want {
			t.Errorf("%s\nnot\n%s", got, want)
		}
	}
	if got, want := show(ask([]api.Event{}, nil)), show(ask(nil, []api.Attr{})); got != want {
		t.Errorf("%s\nnot\n%s", got, want)
	}
}

// R4: calls by many goroutines answer what each answers alone, walks over one list too.
func TestGoroutines(t *testing.T) {
	all := lists(rand.New(rand.NewSource(8)), 30)
	var alone []string
	for _, l := range all {
		alone = append(alone, show(ask(l, nil)))
	}
	shared := all[0]
	for _, l := range all {
		if len(l) > len(shared) {
			shared = l
		}
	}
	walk, want := event.Walk(shared...), walked(shared)
	var wait sync.WaitGroup
	for worker := range 4 {
		wait.Go(func() {
			for i := range all {
				n := (i*7 + worker) % len(all)
				if got := show(ask(all[n], nil)); got != alone[n] {
					t.Errorf("%s\nnot\n%s", got, alone[n])
				}
				var told []api.Event
				for _, e := range walk {
					told = append(told, e)
					e.Attrs = append(e.Attrs, attr("more", ""))
				}
				if got := walked(told); got != want {
					t.Errorf("%s\nnot\n%s", got, want)
				}
			}
		})
	}
	wait.Wait()
}
