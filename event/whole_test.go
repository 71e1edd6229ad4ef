package event_test

import (
	"math/rand"
	"slices"
	"testing"

	"sieve/api"
	"sieve/event"
)

// holdAll: does every call answer of events what the chapter asks?
func holdAll(t *testing.T, l []api.Event) {
	t.Helper()
	same := func(call, got, want string) {
		if got != want {
			t.Errorf("%s of %+v:\n%s\nnot\n%s", call, l, got, want)
		}
	}
	at, err := nested(l)
	same("Nested", show(event.Nested(l...)), show(at, err))
	same("Merge", show(event.Merge(l...)), show(merged(l)))
	same("Count", show(event.Count(l...)), show(counted(l)))
	same("Text", show(event.Text(l...)), show(allText(l)))
	var names, ways []string
	var last, wrapped []api.Event
	var trees []api.Node
	most, form, whole := 0, api.OK, err
	told := l
	if err == api.OK {
		names, _ = opened(l)
		most, last, ways = depth(l), closers(l), paths(l)
		if len(names) > 0 {
			whole = api.ErrEventNest
		}
	} else {
		told = l[:at]
	}
	if whole == api.OK {
		trees = folded(l)
		wrapped = append(append([]api.Event{open("div", attr("id", "x"))}, l...), end("div"))
	}
	same("Open", show(event.Open(l...)), show(names, err))
	same("Depth", show(event.Depth(l...)), show(most, err))
	same("Close", show(event.Close(l...)), show(last, err))
	same("Paths", show(event.Paths(l...)), show(ways, err))
	same("Fold", show(event.Fold(l...)), show(trees, whole))
	same("Wrap", show(event.Wrap("div", []api.Attr{attr("id", "x")}, l...)), show(wrapped, whole))
	for n := range most + 2 {
		var some []api.Event
		if err == api.OK {
			some = trimmed(n, l)
		}
		same("Trim", show(event.Trim(n, l...)), show(some, err))
	}
	lines := ""
	if slices.ContainsFunc(l, func(e api.Event) bool { return !mayBe(e) }) {
		form = api.ErrEventForm
	} else {
		lines = printed(l)
	}
	same("Print", show(event.Print(l...)), show(lines, form))
	holdWalk(t, l, told)
	holdLaws(t, l)
}

// holdWalk: does Walk tell just these events, with how many are open ahead of each?
func holdWalk(t *testing.T, l, told []api.Event) {
	t.Helper()
	n := 0
	for around, e := range event.Walk(l...) {
		if n >= len(told) {
			t.Fatalf("Walk of %+v tells too many", l)
		}
		names, _ := opened(told[:n])
		if around != len(names) || show(e) != show(told[n]) {
			t.Errorf("Walk of %+v: %d: %d, %+v", l, n, around, e)
		}
		n++
	}
	if n != len(told) {
		t.Errorf("Walk of %+v tells %d", l, n)
	}
}

// treeDepth: the depth of trees.
func treeDepth(l []api.Node) int {
	most := 0
	for _, n := range l {
		if n.Name != "" {
			most = max(most, 1+treeDepth(n.Kids))
		}
	}
	return most
}

// holdLaws: P18.9, P18.11, P18.13, by what the calls answer of each other's answers.
func holdLaws(t *testing.T, l []api.Event) {
	t.Helper()
	last, err := event.Close(l...)
	if err != api.OK {
		return
	}
	whole := slices.Concat(l, last)
	names, err := event.Open(whole...)
	trees, err2 := event.Fold(whole...)
	again, err3 := event.Fold(event.Merge(whole...)...)
	if len(names) != 0 || err != api.OK || err2 != api.OK || err3 != api.OK || show(trees) != show(again) {
		t.Errorf("closed: %+v: %v, %d, %d, %d\n%+v\n%+v", whole, names, err, err2, err3, trees, again)
	}
	n, _ := event.Depth(whole...)
	if count := event.Count(whole...); n != treeDepth(trees) || count[api.EventOpen] != count[api.EventClose] {
		t.Errorf("%+v: depth %d, %d of the trees; %v", whole, n, treeDepth(trees), count)
	}
	wrapped, err := event.Wrap("b", []api.Attr{attr("a", "")}, whole...)
	around, err2 := event.Depth(wrapped...)
	tree, err3 := event.Fold(wrapped...)
	if err != api.OK || err2 != api.OK || err3 != api.OK || around != n+1 || show(tree) != show([]api.Node{{Name: "b", Attrs: []api.Attr{attr("a", "")}, Kids: trees}}) {
		t.Errorf("wrapped: %+v: %d, %+v", wrapped, around, tree)
	}
	for at := range len(l) + 1 {
		if n, err := event.Nested(l[:at]...); n != 0 || err != api.OK {
			t.Errorf("the first %d of %+v: %d, %d", at, l, n, err)
		}
	}
	for most := range n + 2 {
		holdTrimmed(t, most, n, l, whole)
	}
}

// holdTrimmed: P18.13 of events that are n deep, and of these with what closes them.
func holdTrimmed(t *testing.T, most, n int, l, whole []api.Event) {
	t.Helper()
	some, err := event.Trim(most, l...)
	deep, err2 := event.Depth(some...)
	all, err3 := event.Trim(most, whole...)
	names, err4 := event.Open(all...)
	if err != api.OK || err2 != api.OK || err3 != api.OK || err4 != api.OK || deep > most || len(names) != 0 || most >= n && !event.Equal(all, whole) {
		t.Errorf("trimmed to %d: %+v: %+v is %d deep; %v is open", most, l, some, deep, names)
	}
	if k, _ := event.Depth(l...); most >= k && !event.Equal(some, l) {
		t.Errorf("trimmed to %d, of %d: %+v: %+v", most, k, l, some)
	}
}

// P18.2 to P18.13: all short lists of the events that matter.
func TestAllShort(t *testing.T) {
	allLists([]api.Event{text("x"), text(""), open("p"), open("b"), end("p"), end("b"), void("br")}, 4, func(l []api.Event) { holdAll(t, l) })
	allLists([]api.Event{text("x"), open("p"), open("b"), end("p"), end("b"), void("br")}, 5, func(l []api.Event) { holdAll(t, l) })
}

// P18.2 to P18.13: all lists that are longer, of fewer events.
func TestAllLonger(t *testing.T) {
	allLists([]api.Event{open("p"), end("p"), void("hr")}, 8, func(l []api.Event) { holdAll(t, l) })
	allLists([]api.Event{text("a"), text("b"), text(""), open("p"), end("p")}, 5, func(l []api.Event) { holdAll(t, l) })
}

// P18.2 to P18.13: any events.
func TestAny(t *testing.T) {
	r := rand.New(rand.NewSource(4))
	for range 3000 {
		holdAll(t, someEvents(r))
	}
	for range 300 {
		l := slices.Concat(someEvents(r), someEvents(r), someEvents(r))
		if len(l) < 200 {
			holdAll(t, l)
		}
	}
}
