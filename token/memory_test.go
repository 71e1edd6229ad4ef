package token_test

import (
	"sync"
	"testing"

	"sieve/api"
	"sieve/token"
)

// scrawl changes all of a list, its attributes too, and the room behind the ends.
func scrawl(l []api.Token) {
	l = l[:cap(l)]
	for i := range l {
		attrs := l[i].Attrs[:cap(l[i].Attrs)]
		for k := range attrs {
			attrs[k] = attr("scrawl", "scrawl")
		}
		l[i] = api.Token{Kind: 99, Name: "scrawl", Attrs: attrs}
	}
}

// roomy: a list with room behind its end, and behind its attributes' ends.
func roomy() []api.Token {
	attrs := append(make([]api.Attr, 0, 4), attr("b", "1"), attr("c", "2"))
	l := make([]api.Token, 0, 8)
	return append(l, text("x"), start("a", attrs...), filled("", "k", 1), filled("y", "l", 2), filled("z", "m", 3), self("a", attrs...), end("a"))
}

// copied: as it is, in memory of its own.
func copied(l []api.Token) []api.Token {
	var out []api.Token
	for _, t := range l {
		t.Attrs = append([]api.Attr(nil), t.Attrs...)
		out = append(out, t)
	}
	return out
}

// R3: what is handed in stays, with the room behind its end.
func TestNothingChanged(t *testing.T) {
	l := roomy()
	was, wasRoom := copied(l), copied(l[:cap(l)])
	for n := range len(l) + 1 {
		token.Merge(l[:n]...)
		token.List(l[:n]...)
	}
	for _, x := range l {
		token.Check(x)
		token.Print(x)
		token.Equal(x, l[0])
		token.Attr(x, "b")
	}
	if !sameAll(l, was) || !sameAll(l[:cap(l)], wasRoom) {
		t.Errorf("changed: %#v", l[:cap(l)])
	}
	if room := l[1].Attrs[:cap(l[1].Attrs)]; len(room) != 4 || room[2] != (api.Attr{}) || room[3] != (api.Attr{}) {
		t.Errorf("changed behind the attributes: %#v", room)
	}
}

// R3: Merge's answer shares no memory with what was handed in, nor do its tokens with each other.
func TestMergeIsNew(t *testing.T) {
	l := roomy()
	was := copied(l)
	got := token.Merge(l...)
	want := copied(got)
	scrawl(l)
	if !sameAll(got, want) || !sameAll(got, merged(was)) {
		t.Errorf("it changed with what was handed in: %#v", got)
	}
	l = roomy() // its two start tags share their attributes
	got = token.Merge(l...)
	got[1].Attrs[0] = attr("scrawl", "")
	_ = append(got[1].Attrs, attr("scrawl", ""))
	if !sameAll(got[2:], merged(was)[2:]) || !sameAll(l, was) {
		t.Errorf("tokens share: %#v, %#v", got, l)
	}
	got = token.Merge(l...)
	scrawl(got)
	if !sameAll(l, was) {
		t.Errorf("what was handed in changed with it: %#v", l)
	}
	if again := token.Merge(l...); !sameAll(again, merged(was)) {
		t.Errorf("the next answer changed with it: %#v", again)
	}
	one := token.Merge(filled("x", "k", 1), filled("y", "l", 2))
	two := token.Merge(one...)
	scrawl(one)
	if len(two) != 1 || two[0].Text != "xy" || two[0].Attrs[0] != attr("k", "x") {
		t.Errorf("Merge of Merge shares with Merge: %#v", two)
	}
}

// R3: the tokens that Parse tells share no list; whatever is done with them, the next answer is as the first.
func TestParseIsNew(t *testing.T) {
	s := "start \"a\" \"b\"=\"1\" \"c\"=\"2\" \"d\"=\"3\"\nstart \"a\" \"b\"=\"1\" \"c\"=\"2\" \"d\"=\"3\"\ntext \"x\"\n"
	want := []api.Token{start("a", attr("b", "1"), attr("c", "2"), attr("d", "3")), start("a", attr("b", "1"), attr("c", "2"), attr("d", "3")), text("x")}
	got, _, _ := token.Parse(s)
	other, _, _ := token.Parse(s)
	_ = append(got[0].Attrs, attr("scrawl", ""))
	got[0].Attrs[0] = attr("scrawl", "")
	if !sameAll(got[1:], want[1:]) {
		t.Errorf("tokens share: %#v", got)
	}
	scrawl(got)
	if !sameAll(other, want) {
		t.Errorf("answers share: %#v", other)
	}
	if again, _, _ := token.Parse(s); !sameAll(again, want) {
		t.Errorf("again: %#v", again)
	}
}

// R4: the same answers by many goroutines at once, of one list.
func TestTogether(t *testing.T) {
	l := possible()
	s, _ := token.List(l...)
	var all sync.WaitGroup
	for range 8 {
		all.Go(func() {
			for range 20 {
				if got, e := token.List(l...); got != s || e != api.OK {
					t.Errorf("List: %d", e)
				}
				if got, at, e := token.Parse(s); !sameAll(got, l) || at != 0 || e != api.OK {
					t.Errorf("Parse: %d, %d", at, e)
				}
				if got := token.Merge(l...); !sameAll(got, merged(l)) {
					t.Errorf("Merge: %d", len(got))
				}
				if _, at, e := token.Parse(s + "x"); at != len(l)+1 || e != api.ErrTokenForm {
					t.Errorf("Parse of a wrong line: %d, %d", at, e)
				}
			}
		})
	}
	all.Wait()
}
