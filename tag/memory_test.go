package tag_test

import (
	"slices"
	"sync"
	"testing"

	"sieve/api"
	"sieve/tag"
)

// scrawl changes all of a list, and the room behind its end.
func scrawl(l []api.Attr) {
	l = l[:cap(l)]
	for i := range l {
		l[i] = attr("scrawl", "scrawl")
	}
}

// roomy: a list with room behind its end.
func roomy() []api.Attr {
	return append(make([]api.Attr, 0, 8), attr("b", "1"), attr("c", "&\""), attr("d", ""))
}

// R3: what is handed in stays, with the room behind its end.
func TestNothingChanged(t *testing.T) {
	for _, kind := range []api.TokenKind{api.TokenStart, api.TokenEnd, api.TokenText} {
		l := roomy()
		was := slices.Clone(l[:cap(l)])
		x := api.Token{Kind: kind, Name: "a", Attrs: l, Self: true}
		tag.Write(x)
		told(x, 9)
		tag.List(l...)
		tag.List(l[:2]...)
		if !slices.Equal(l[:cap(l)], was) || len(x.Attrs) != 3 || !x.Self {
			t.Errorf("changed: %#v", l[:cap(l)])
		}
	}
}

// R3: an iterator does not change with the list, nor with the room behind it.
func TestNamesKeep(t *testing.T) {
	l := roomy()
	all := tag.Names(start("a", l...))
	short := tag.Names(start("a", l[:1]...))
	want := slices.Clone(l)
	scrawl(l)
	for range 2 {
		var got []api.Attr
		for name, value := range all {
			got = append(got, attr(name, value))
		}
		n := 0
		for range short {
			n++
		}
		if !slices.Equal(got, want) || n != 1 {
			t.Errorf("%#v, %d", got, n)
		}
	}
}

// R3: what a scanner answers is new each time, and stays, whatever is done with the scanner or with another answer.
func TestTokenIsNew(t *testing.T) {
	for _, text := range []string{"a>", "a b>", "a b=1 c=2 d=3/>", "a b=1 c=2 d=3 e=4 f=5>", "/a b=1>"} {
		want := model(text).token
		s := tag.New()
		for _, r := range text {
			s.Put(r)
		}
		one, _ := s.Token()
		two, _ := s.Token()
		scrawl(one.Attrs)
		_ = append(two.Attrs, attr("scrawl", ""))
		three, _ := s.Token()
		if !same(two, want) || !same(three, want) {
			t.Errorf("%q: %#v, %#v", text, two, three)
		}
		scrawl(three.Attrs)
		s.Put('x')
		closed(t, s, len(text), want)
	}
}

// R3: the answers of Whole and Attrs are new each time.
func TestAnswersAreNew(t *testing.T) {
	const text = "a b=1 c=2 d='3'>"
	want := model(text).token
	one, two := whole(text), whole(text)
	scrawl(one.token.Attrs)
	if three := whole(text); !same(two.token, want) || !same(three.token, want) {
		t.Errorf("%#v, %#v", two, three)
	}
	first, second := tag.Attrs("b=1 c=2"), tag.Attrs("b=1 c=2")
	scrawl(first)
	if third := tag.Attrs("b=1 c=2"); !slices.Equal(second, third) || second[0] != attr("b", "1") || second[1] != attr("c", "2") {
		t.Errorf("%#v, %#v", second, third)
	}
}

// R4: the same answers by many goroutines at once, one token and one iterator among them all.
func TestTogether(t *testing.T) {
	x := self("a", roomy()...)
	all := tag.Names(x)
	var group sync.WaitGroup
	for range 16 {
		group.Go(func() {
			for range 50 {
				text, e := tag.Write(x)
				if e != api.OK || !whole(text[1:]).is(answer{x, len(text) - 1, true, api.OK}) {
					t.Errorf("%q, %d", text, e)
				}
				i := 0
				for name, value := range all {
					if x.Attrs[i] != attr(name, value) {
						t.Errorf("%q, %q", name, value)
					}
					i++
				}
				if l, e := tag.List(x.Attrs...); e != api.OK || !slices.Equal(tag.Attrs(l), x.Attrs) {
					t.Errorf("%q, %d", l, e)
				}
				runeByRune(t, "a b=1 B=2 c/>", whole("a b=1 B=2 c/>"))
			}
		})
	}
	group.Wait()
}
