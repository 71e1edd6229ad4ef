package balance_test

import (
	"fmt"
	"math/rand"
	"slices"
	"strings"
	"sync"
	"testing"

	"sieve/api"
	"sieve/balance"
)

// roomy: tokens in new memory, each list with room behind its end, in which something stands.
func roomy(l []api.Token) []api.Token {
	var out []api.Token
	for _, t := range l {
		n := len(t.Attrs)
		t.Attrs = append(slices.Clone(t.Attrs), attr("room", "1"), attr("href", "2"), attr("class", "3"))[:n]
		out = append(out, t)
	}
	return append(out, start("room"), text("room"))[:len(l)]
}

// whole: tokens with all that stands in the room behind their lists' ends.
func whole(l []api.Token) string {
	out := ""
	for _, t := range l[:cap(l)] {
		out += fmt.Sprintf("%+v %+v\n", t, t.Attrs[:cap(t.Attrs)])
	}
	return out
}

// scrawl changes all of some tokens, and the room behind.
func scrawl(l []api.Token) {
	l = l[:cap(l)]
	for at := range l {
		scrawlAttrs(l[at].Attrs)
		l[at] = text("scrawl")
	}
}

// scrawlAttrs changes all of some attributes, and the room behind.
func scrawlAttrs(l []api.Attr) {
	l = l[:cap(l)]
	for at := range l {
		l[at] = attr("scrawl", "scrawl")
	}
}

// scrawlTold changes all of an answer, and the room behind its lists' ends.
func scrawlTold(l []api.Event, f []api.Finding) {
	l, f = l[:cap(l)], f[:cap(f)]
	for at := range l {
		scrawlAttrs(l[at].Attrs)
		l[at] = api.Event{Kind: api.EventClose, Name: "scrawl", Text: "scrawl"}
	}
	for at := range f {
		f[at] = api.Finding{Why: 99, Name: "scrawl"}
	}
}

// scrawlNames changes all of some names, and the room behind.
func scrawlNames(l []string) {
	l = l[:cap(l)]
	for at := range l {
		l[at] = "scrawl"
	}
}

// R3: nothing that is handed in is changed, nor the room behind it.
func TestHandedIn(t *testing.T) {
	r := rand.New(rand.NewSource(5))
	for range 500 {
		depth, l := someDepth(r), roomy(someTokens(r, 30))
		was := whole(l)
		b := made(t, depth)
		for _, x := range l {
			b.Take(x)
		}
		b.End()
		balance.All(depth, l...)
		if whole(l) != was {
			t.Fatalf("changed:\n%s\nnot\n%s", whole(l), was)
		}
	}
}

// R3: what is handed in is not kept: written over, it changes neither what was answered nor what will be.
func TestChangedBehind(t *testing.T) {
	r := rand.New(rand.NewSource(6))
	for range 500 {
		depth, l := someDepth(r), someTokens(r, 30)
		b, m := made(t, depth), &model{depth: depth}
		for _, x := range l {
			mine := roomy([]api.Token{x})
			told, f, e := b.Take(mine[0])
			want := show(m.take(x))
			scrawl(mine)
			if got := show(told, f, e); got != want {
				t.Fatalf("%+v:\n%s\nnot\n%s", x, got, want)
			}
		}
		mine := roomy(l)
		told, f, e := balance.All(depth, mine...)
		scrawl(mine)
		if got, want := show(told, f, e), show(allOf(depth, l...)); got != want {
			t.Fatalf("All:\n%s\nnot\n%s", got, want)
		}
	}
}

// R3: what is answered stays as it is, whatever is done later; and written over, the room behind it too, it changes nothing.
func TestAnswered(t *testing.T) {
	r := rand.New(rand.NewSource(7))
	for range 300 {
		depth, l := someDepth(r), someTokens(r, 40)
		kept, spoilt := made(t, depth), made(t, depth)
		var checks []func() bool
		keep := func(told []api.Event, f []api.Finding, names []string) {
			was, open := show(told, f, 0), strings.Join(names, " ")
			checks = append(checks, func() bool { return show(told, f, 0) == was && strings.Join(names, " ") == open })
		}
		for _, x := range l {
			told, f, _ := kept.Take(x)
			other, of, _ := spoilt.Take(x)
			if show(told, f, 0) != show(other, of, 0) || !slices.Equal(kept.Open(), spoilt.Open()) || !slices.Equal(kept.Ghosts(), spoilt.Ghosts()) {
				t.Fatalf("%+v: an answer that was written over has changed another one", x)
			}
			keep(told, f, kept.Open())
			keep(nil, nil, kept.Ghosts())
			scrawlTold(other, of)
			scrawlNames(spoilt.Open())
			scrawlNames(spoilt.Ghosts())
		}
		told, _ := kept.End()
		other, _ := spoilt.End()
		if line(told) != line(other) {
			t.Fatalf("End: %s; not %s", line(other), line(told))
		}
		keep(told, nil, nil)
		for at, check := range checks {
			if !check() {
				t.Fatalf("answer %d of %+v has changed", at, l)
			}
		}
	}
}

// R3: appending to an answer changes no other one: each list grows apart.
func TestGrowApart(t *testing.T) {
	r := rand.New(rand.NewSource(8))
	for range 300 {
		depth, l := someDepth(r), someTokens(r, 40)
		b, m := made(t, depth), &model{depth: depth}
		var told []api.Event
		var found []api.Finding
		var want []string
		var lists [][]api.Event
		var finding [][]api.Finding
		for _, x := range l {
			told, found, _ = b.Take(x)
			want = append(want, show(m.take(x)))
			lists, finding = append(lists, told), append(finding, found)
			_ = append(told, api.Event{Text: "more"}, api.Event{Text: "more"})
			_ = append(found, api.Finding{Why: 99}, api.Finding{Why: 99})
			_ = append(b.Open(), "more")
			_ = append(b.Ghosts(), "more")
			for _, e := range told {
				_ = append(e.Attrs, attr("more", ""))
			}
		}
		for at, s := range want {
			_ = append(lists[at], api.Event{Text: "more"})
			_ = append(finding[at], api.Finding{Why: 99})
			if got := show(lists[at], finding[at], 0); got != s {
				t.Fatalf("answer %d of %+v:\n%s\nnot\n%s", at, l, got, s)
			}
		}
	}
}

// R3: no two lists of an answer share memory, nor do two answers, nor their spare room.
func TestListsApart(t *testing.T) {
	r := rand.New(rand.NewSource(9))
	for range 300 {
		depth, l := someDepth(r), someTokens(r, 40)
		events, attrs, findings, texts := map[*api.Event]bool{}, map[*api.Attr]bool{}, map[*api.Finding]bool{}, map[*string]bool{}
		apart := func(told []api.Event, f []api.Finding, e api.Errno) {
			t.Helper()
			told, f = told[:cap(told)], f[:cap(f)]
			for at := range told {
				if events[&told[at]] {
					t.Fatal("two lists of events share memory")
				}
				events[&told[at]] = true
				for n := range told[at].Attrs[:cap(told[at].Attrs)] {
					a := &told[at].Attrs[:cap(told[at].Attrs)][n]
					if attrs[a] {
						t.Fatal("two lists of attributes share memory")
					}
					attrs[a] = true
				}
			}
			for at := range f {
				if findings[&f[at]] {
					t.Fatal("two lists of findings share memory")
				}
				findings[&f[at]] = true
			}
		}
		b := made(t, depth)
		for _, x := range l {
			apart(b.Take(x))
			for _, names := range [][]string{b.Open(), b.Ghosts(), b.Open(), b.Ghosts()} {
				names = names[:cap(names)]
				for at := range names {
					if texts[&names[at]] {
						t.Fatal("two lists of names share memory")
					}
					texts[&names[at]] = true
				}
			}
		}
		last, _ := b.End()
		apart(last, nil, 0)
		apart(balance.All(depth, l...))
		apart(balance.All(depth, l...))
	}
}

// R3: a list of attributes that is empty may have room: the answer has none of it.
func TestEmptyRoom(t *testing.T) {
	room := []api.Attr{attr("room", "1"), attr("room", "2")}
	for _, x := range []api.Token{text("x"), start("b"), start("br"), start("td"), end("b")} {
		x.Attrs = room[:0]
		for _, told := range [][]api.Event{mustAll(t, 9, start("b"), x), mustAll(t, 9, x, x)} {
			for _, e := range told {
				if len(e.Attrs) > 0 {
					t.Errorf("%+v", e)
				}
				_ = append(e.Attrs, attr("more", ""))
			}
			scrawlTold(told, nil)
			if room[0] != attr("room", "1") || room[1] != attr("room", "2") {
				t.Errorf("%+v: %v", x, room)
			}
		}
	}
}

// mustAll: the events of tokens.
func mustAll(t *testing.T, depth int, l ...api.Token) []api.Event {
	t.Helper()
	events, _, e := balance.All(depth, l...)
	if e != api.OK {
		t.Fatal(e)
	}
	return events
}

// R4: two balancers know nothing of each other, and calls by many goroutines answer what each answers alone.
func TestApart(t *testing.T) {
	r := rand.New(rand.NewSource(10))
	type job struct {
		depth int
		l     []api.Token
		alone string
	}
	var jobs []job
	for range 60 {
		depth, l := someDepth(r), someTokens(r, 40)
		jobs = append(jobs, job{depth, l, show(allOf(depth, l...))})
	}
	// Two balancers, fed by turns.
	for at, one := range jobs {
		other := jobs[(at+1)%len(jobs)]
		b, c := made(t, one.depth), made(t, other.depth)
		m, n := &model{depth: one.depth}, &model{depth: other.depth}
		for i := range max(len(one.l), len(other.l)) {
			if i < len(one.l) && show(b.Take(one.l[i])) != show(m.take(one.l[i])) {
				t.Fatal("the first one")
			}
			if i < len(other.l) && show(c.Take(other.l[i])) != show(n.take(other.l[i])) {
				t.Fatal("the second one")
			}
		}
	}
	var wait sync.WaitGroup
	for worker := range 4 {
		wait.Go(func() {
			for i := range jobs {
				j := jobs[(i*7+worker)%len(jobs)]
				if got := show(balance.All(j.depth, j.l...)); got != j.alone {
					t.Errorf("%s\nnot\n%s", got, j.alone)
				}
			}
		})
	}
	wait.Wait()
}

// R3: nil and empty lists of attributes are the same.
func TestNilAndEmpty(t *testing.T) {
	x := start("b")
	y := start("b", []api.Attr{}...)
	y.Attrs = []api.Attr{}
	if got, want := show(balance.All(9, y, y)), show(balance.All(9, x, x)); got != want {
		t.Errorf("%s\nnot\n%s", got, want)
	}
}
