package entity_test

import (
	"slices"
	"sync"
	"testing"

	"sieve/api"
	"sieve/entity"
)

// scrawl changes a list and the room behind its end.
func scrawl(l []rune) {
	l = l[:cap(l)]
	for i := range l {
		l[i] = 'X'
	}
}

// R3: an answer is new memory: whatever is done with it, the next one is as the first.
func TestAnswersStay(t *testing.T) {
	for _, p := range pairs() {
		one, _ := entity.Find(p.name)
		_, two := entity.Longest(p.name + "&")
		scrawl(one)
		if string(two) != p.means {
			t.Errorf("Longest(%q), behind Find's list changed: %x", p.name, two)
		}
		scrawl(two)
		_ = append(one, 'Y')
		if again, ok := entity.Find(p.name); !ok || string(again) != p.means {
			t.Errorf("Find(%q), again: %x, %v", p.name, again, ok)
		}
		if size, again := entity.Longest(p.name); size != len(p.name) || string(again) != p.means {
			t.Errorf("Longest(%q), again: %d, %x", p.name, size, again)
		}
	}
}

// R3: what is handed in stays as it is, with the room behind its end, and is not kept.
func TestNothingChanged(t *testing.T) {
	room := []rune{0x2242, 0x338, '&', 'x'}
	for n := range len(room) + 1 {
		entity.Name(room[:n]...)
	}
	if !slices.Equal(room, []rune{0x2242, 0x338, '&', 'x'}) {
		t.Errorf("changed: %x", room)
	}
	name, ok := entity.Name(room[:2]...)
	clear(room)
	if name != "NotEqualTilde;" || !ok {
		t.Errorf("Name: %q, %v", name, ok)
	}
}

// R3: the table that api hands out may be changed; the answers stay.
func TestTableApart(t *testing.T) {
	clear(api.Entities())
	if said, ok := entity.Find("amp"); !ok || string(said) != "&" {
		t.Errorf("Find(amp): %x, %v", said, ok)
	}
}

// R4: the same answers by many goroutines at once, one iterator among them all.
func TestTogether(t *testing.T) {
	seq := entity.All("s")
	want := beginning("s")
	var all sync.WaitGroup
	for range 8 {
		all.Go(func() {
			for range 20 {
				if got := slices.Collect(seq); !slices.Equal(got, want) {
					t.Errorf("All(s): %q", got)
				}
				if got := entity.Encode("f<\u20d2"); got != "f&nvlt;" {
					t.Errorf("Encode: %q", got)
				}
				if size, _ := entity.Longest("notit;"); size != 3 {
					t.Errorf("Longest: %d", size)
				}
			}
		})
	}
	all.Wait()
}
