package link_test

import (
	"slices"
	"sync"
	"testing"

	"sieve/api"
	"sieve/link"
)

// R3: the lists that are handed in stay as they are, and so does what lies in the room behind their ends.
func TestHandedIn(t *testing.T) {
	schemes := []string{"https", "mailto", "javascript", "x"}
	wasSchemes := slices.Clone(schemes)
	for _, v := range []string{"https:a", "HTTPS:\\\\a b", "x:", "javascript:", "a\xff", ""} {
		if _, e := link.Allowed(v, schemes[:2], true); e != api.OK {
			t.Errorf("Allowed(%q): %d", v, e)
		}
		if _, _, e := link.Tidy(v, schemes[:2], true); e != api.OK {
			t.Errorf("Tidy(%q): %d", v, e)
		}
		link.Allowed(v, schemes, false)
		link.Tidy(v, schemes, false)
	}
	if !slices.Equal(schemes, wasSchemes) {
		t.Errorf("%q", schemes)
	}
	pairs := []api.Attr{{Name: "a b", Value: "\xff"}, {Name: "%", Value: "+"}, {Name: "room", Value: "room"}}
	wasPairs := slices.Clone(pairs)
	if link.Query(pairs[:2]...) != "a+b=%EF%BF%BD&%25=%2B" || !slices.Equal(pairs, wasPairs) {
		t.Errorf("%q", pairs)
	}
	set := []api.Candidate{one("\xff", " 1x "), one("a,", ""), one("room", "room")}
	wasSet := slices.Clone(set)
	if link.Set(set[:2]...) != "\ufffd  1x , a," || !slices.Equal(set, wasSet) {
		t.Errorf("%q", set)
	}
}

// R3: lists that are answered share nothing, their spare room neither.
func TestAnswered(t *testing.T) {
	a, _ := link.Srcset("a 1x, b 2x, c")
	b, _ := link.Srcset("a 1x, b 2x, c")
	want := slices.Clone(b)
	clear(a[:cap(a)])
	if !slices.Equal(b, want) {
		t.Errorf("%q", b)
	}
	p, q := link.Pairs("a=b&c=d&e"), link.Pairs("a=b&c=d&e")
	wantPairs := slices.Clone(q)
	clear(p[:cap(p)])
	if !slices.Equal(q, wantPairs) {
		t.Errorf("%q", q)
	}
}

// R3: nil and empty lists are the same.
func TestNoLists(t *testing.T) {
	for _, v := range []string{"", "a", "https:"} {
		for _, relative := range []bool{false, true} {
			a, e := link.Allowed(v, nil, relative)
			b, f := link.Allowed(v, []string{}, relative)
			if a != b || e != f {
				t.Errorf("%q: %v, %d; %v, %d", v, a, e, b, f)
			}
		}
	}
	if link.Set() != link.Set([]api.Candidate{}...) || link.Query() != link.Query([]api.Attr{}...) {
		t.Error("empty lists")
	}
	if l, good := link.Srcset(""); len(l) != 0 || !good {
		t.Errorf("%q, %v", l, good)
	}
}

// told: what many calls answer of a text.
func told(v string) [9]string {
	tidy, _, _ := link.Tidy(v, []string{"https", "a"}, true)
	scheme, _ := link.Scheme(v)
	set, _ := link.Srcset(v)
	l := link.Split(v)
	user, host, port := link.Authority(l.Host)
	return [9]string{link.Strip(v), tidy, scheme, link.Set(set...), link.Join(link.Resolve(link.Split("http://a/b"), l)), user + host + port, link.Query(link.Pairs(v)...), link.Decode(v), link.Dots(v)}
}

// R4: calls know nothing of each other.
func TestApart(t *testing.T) {
	var all []string
	texts(2, signs, func(v string) { all = append(all, v) })
	var alone [][9]string
	for _, v := range all {
		alone = append(alone, told(v))
	}
	var wait sync.WaitGroup
	for worker := range 4 {
		wait.Go(func() {
			for i := range all {
				at := (i*(worker+1) + worker) % len(all)
				if told(all[at]) != alone[at] {
					t.Errorf("%q", all[at])
				}
			}
		})
	}
	wait.Wait()
}
