package value_test

import (
	"slices"
	"sync"
	"testing"

	"sieve/api"
	"sieve/value"
)

// R3: the lists that are handed in stay as they are, and so does what lies in the room behind their ends.
func TestHandedIn(t *testing.T) {
	words := []string{"LEFT", "a\xffB", "\x00", "Room", "room"}
	schemes := []string{"https", "mailto", "Room"}
	wasWords, wasSchemes := slices.Clone(words), slices.Clone(schemes)
	for _, k := range append([]api.ValueKind{-1, 9}, kinds...) {
		r := api.Rule{Name: "x", Kind: k, Words: words[:3]}
		for _, v := range []string{"", "left", "A\xffb", "room", "https:x", "Room:x", "7", " a b "} {
			value.Tidy(r, schemes[:2], true, v)
			value.Check(r, schemes[:2], false, v)
			value.Check(r, schemes, false, v)
		}
	}
	if !slices.Equal(words, wasWords) || !slices.Equal(schemes, wasSchemes) {
		t.Errorf("%q, %q", words, schemes)
	}
	refuses(t, oneOf(words[:3]...), nil, false, "room")
	refuses(t, api.Rule{Kind: api.ValueLink}, schemes[:2], true, "room:x")
}

// R3: words that are answered share nothing, their spare room neither.
func TestAnswered(t *testing.T) {
	a, b := value.Tokens("a b c d e"), value.Tokens("a b c d e")
	clear(a[:cap(a)])
	if want := []string{"a", "b", "c", "d", "e"}; !slices.Equal(b, want) || !slices.Equal(value.Tokens("a b c d e"), want) {
		t.Errorf("%q", b)
	}
}

// R3: nil and empty lists are the same.
func TestNoLists(t *testing.T) {
	for _, k := range kinds {
		for _, v := range []string{"", "a", "a:", "7"} {
			for _, relative := range []bool{false, true} {
				s, ok, e := value.Tidy(api.Rule{Kind: k}, nil, relative, v)
				s2, ok2, e2 := value.Tidy(api.Rule{Kind: k, Words: []string{}}, []string{}, relative, v)
				if s != s2 || ok != ok2 || e != e2 {
					t.Errorf("%d, %q: %q, %v, %d; %q, %v, %d", k, v, s, ok, e, s2, ok2, e2)
				}
			}
		}
	}
}

// R4: calls know nothing of each other.
func TestApart(t *testing.T) {
	var all []string
	texts(2, signs, func(v string) { all = append(all, v) })
	words := []string{"A", "7", "\xff"}
	schemes := []string{"a", "https"}
	answers := func(v string) [9]string {
		var out [9]string
		for n, k := range kinds {
			s, ok, _ := value.Tidy(api.Rule{Kind: k, Words: words}, schemes, true, v)
			if ok {
				out[n] = s + "!"
			}
		}
		return out
	}
	var alone [][9]string
	for _, v := range all {
		alone = append(alone, answers(v))
	}
	var wait sync.WaitGroup
	for worker := range 4 {
		wait.Go(func() {
			for i := range all {
				at := (i*(worker+1) + worker) % len(all)
				if answers(all[at]) != alone[at] {
					t.Errorf("%q", all[at])
				}
			}
		})
	}
	wait.Wait()
}
