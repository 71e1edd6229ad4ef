package filter_test

import (
	"fmt"
	"math/rand"
	"slices"
	"sync"
	"testing"

	"sieve/api"
	"sieve/filter"
)

// roomyToken: a token in new memory, its list with room behind its end, in which something stands.
func roomyToken(t api.Token) api.Token {
	n := len(t.Attrs)
	t.Attrs = append(slices.Clone(t.Attrs), attr("room", "1"), attr("href", "2"), attr("class", "3"))[:n]
	return t
}

// roomyTokens: tokens likewise, with room behind the last one.
func roomyTokens(l []api.Token) []api.Token {
	var out []api.Token
	for _, t := range l {
		out = append(out, roomyToken(t))
	}
	return append(out, roomyToken(start("room")), text("room"))[:len(l)]
}

// whole: tokens with all that stands in the room behind their lists' ends.
func whole(l []api.Token) string {
	l = slices.Clone(l[:cap(l)])
	for at, t := range l {
		l[at].Attrs = t.Attrs[:cap(t.Attrs)]
	}
	return showTokens(l...)
}

// scrawl changes all of some tokens, and the room behind.
func scrawl(l []api.Token) {
	l = l[:cap(l)]
	for at := range l {
		attrs := l[at].Attrs[:cap(l[at].Attrs)]
		for n := range attrs {
			attrs[n] = attr("scrawl", "scrawl")
		}
		l[at] = text("scrawl")
	}
}

// scrawlFound changes all of some findings, and the room behind.
func scrawlFound(l []api.Finding) {
	l = l[:cap(l)]
	for at := range l {
		l[at] = api.Finding{Why: 99, Name: "scrawl"}
	}
}

// roomyPolicy: a policy in new memory, each list with room behind its end, in which something stands.
func roomyPolicy(p api.Policy) api.Policy {
	n := len(p.Elements)
	p.Elements = slices.Clone(p.Elements)
	for at, e := range p.Elements {
		p.Elements[at].Rules = roomyRules(e.Rules)
	}
	p.Elements = append(p.Elements, element("room", roomyRules(nil)...), element("u"))[:n]
	p.Global = roomyRules(p.Global)
	p.Schemes = roomyTexts(p.Schemes)
	p.Drop = roomyTexts(p.Drop)
	return p
}

// roomyRules: rules likewise.
func roomyRules(l []api.Rule) []api.Rule {
	out := slices.Clone(l)
	for at, r := range out {
		out[at].Words = roomyTexts(r.Words)
	}
	return append(out, rule("room", 7, "room"), rule("onclick", 0))[:len(l)]
}

// roomyTexts: texts likewise.
func roomyTexts(l []string) []string {
	return append(slices.Clone(l), "room", "javascript")[:len(l)]
}

// wholePolicy: a policy with all that stands in the room behind its lists' ends.
func wholePolicy(p api.Policy) string {
	rules := func(l []api.Rule) string {
		out := ""
		for _, r := range l[:cap(l)] {
			out += fmt.Sprintf(" [%q %d %q]", r.Name, r.Kind, r.Words[:cap(r.Words)])
		}
		return out
	}
	out := ""
	for _, e := range p.Elements[:cap(p.Elements)] {
		out += fmt.Sprintf("%q%s\n", e.Name, rules(e.Rules))
	}
	return out + rules(p.Global) + fmt.Sprintf("%q %q %v %d %d", p.Schemes[:cap(p.Schemes)], p.Drop[:cap(p.Drop)], p.Relative, p.Depth, p.Window)
}

// scrawlPolicy changes all of a policy, and the room behind its lists' ends.
func scrawlPolicy(p api.Policy) {
	texts := func(l []string) {
		l = l[:cap(l)]
		for at := range l {
			l[at] = "u"
		}
	}
	rules := func(l []api.Rule) {
		l = l[:cap(l)]
		for at := range l {
			texts(l[at].Words)
			l[at].Name, l[at].Kind = "onclick", 0
		}
	}
	l := p.Elements[:cap(p.Elements)]
	for at := range l {
		rules(l[at].Rules)
		l[at].Name = "script"
	}
	rules(p.Global)
	texts(p.Schemes)
	texts(p.Drop)
}

// R3: nothing that is handed in is changed, nor the room behind it.
func TestHandedIn(t *testing.T) {
	r := rand.New(rand.NewSource(5))
	for range 500 {
		p, l := roomyPolicy(somePolicy(r)), roomyTokens(someTokens(r, 20))
		wasPolicy, was := wholePolicy(p), whole(l)
		f := made(t, p)
		for _, x := range l {
			f.Take(x)
		}
		filter.All(p, l...)
		if wholePolicy(p) != wasPolicy || whole(l) != was {
			t.Fatalf("changed:\n%s%s", wholePolicy(p), whole(l))
		}
	}
}

// P15.1, R3: a filter keeps its policy in memory of its own: the caller's, written over, changes nothing.
func TestPolicyKept(t *testing.T) {
	r := rand.New(rand.NewSource(6))
	for range 500 {
		p, l := somePolicy(r), someTokens(r, 30)
		mine := roomyPolicy(p)
		f, m := made(t, mine), &model{p: p}
		for at, x := range l {
			if at == len(l)/2 {
				scrawlPolicy(mine)
			}
			if got, want := show(f.Take(x)), show(m.take(x)); got != want {
				t.Fatalf("%s:\n%s\nnot\n%s", showTokens(x), got, want)
			}
		}
	}
	// By hand, all parts of a policy at once.
	p := roomyPolicy(api.Policy{Elements: []api.Element{element("a", rule("href", api.ValueLink), rule("x", api.ValueOneOf, "left"))}, Global: []api.Rule{rule("y", api.ValueOneOf, "right")}, Schemes: []string{"https"}, Drop: []string{"svg"}, Depth: 1, Window: 100})
	f := made(t, p)
	scrawlPolicy(p)
	x := start("a", attr("href", "https:x"), attr("x", "left"), attr("y", "right"))
	takes(t, f, x, one(x))
	takes(t, f, start("a", attr("href", "u:x"), attr("x", "u"), attr("y", "u"), attr("onclick", "")), one(start("a")), found(api.WhyValue, "href"), found(api.WhyValue, "x"), found(api.WhyValue, "y"), found(api.WhyAttr, "onclick"))
	takes(t, f, start("u"), nil, found(api.WhyElement, "u"))
	takes(t, f, start("svg"), nil, found(api.WhyContent, "svg"))
}

// R3: what is answered shares nothing with what was handed in, the room behind its end neither, whichever is written over.
func TestAnswered(t *testing.T) {
	r := rand.New(rand.NewSource(7))
	for range 1000 {
		p, l := somePolicy(r), roomyTokens(someTokens(r, 20))
		f := made(t, p)
		for _, x := range append(roomyTokens(l), l...) {
			was := whole(one(x))
			left, of, _ := f.Take(x)
			want := show(left, of, 0)
			other, otherOf, _ := made(t, p).Take(x)
			scrawl(other)
			scrawlFound(otherOf)
			if whole(one(x)) != was || show(left, of, 0) != want {
				t.Fatal("an answer shares memory with what was handed in, or with another answer")
			}
			scrawl(one(x))
			if show(left, of, 0) != want {
				t.Fatalf("%s\nnot\n%s", show(left, of, 0), want)
			}
			scrawl(left)
			scrawlFound(of)
		}
		l = roomyTokens(someTokens(r, 20))
		was := whole(l)
		left, of, e := filter.All(p, l...)
		want := show(left, of, e)
		again, againOf, _ := filter.All(p, l...)
		scrawl(again)
		scrawlFound(againOf)
		if whole(l) != was || show(left, of, e) != want || show(filter.All(p, l...)) != want {
			t.Fatal("All: answers share memory")
		}
		scrawl(l)
		if show(left, of, e) != want {
			t.Fatal("All: what was handed in is in the answer")
		}
	}
}

// R3: lists of attributes that are empty may have room: the answer has none of it.
func TestEmptyRoom(t *testing.T) {
	room := []api.Attr{attr("room", "1"), attr("room", "2")}
	for _, x := range []api.Token{{Kind: api.TokenText, Text: "x"}, {Kind: api.TokenEnd, Name: "a"}, {Kind: api.TokenStart, Name: "a"}} {
		x.Attrs = room[:0]
		for _, answer := range []func() ([]api.Token, []api.Finding, api.Errno){
			func() ([]api.Token, []api.Finding, api.Errno) { return made(t, plain()).Take(x) },
			func() ([]api.Token, []api.Finding, api.Errno) { return filter.All(plain(), x) },
		} {
			left, _, e := answer()
			if e != api.OK || len(left) != 1 {
				t.Fatalf("%v, %d", left, e)
			}
			scrawl(left)
			if room[0] != attr("room", "1") || room[1] != attr("room", "2") {
				t.Errorf("kind %d: %v", x.Kind, room)
			}
		}
	}
}

// R3: no two lists of one answer share memory, and appending to one changes no other.
func TestListsApart(t *testing.T) {
	x := start("a", attr("href", "x"), attr("y", ""), attr("z", ""))
	left, of, _ := filter.All(plain(), x, x, text("t"), x, end("a"), x)
	want := show(left, of, api.OK)
	for at := range left {
		_ = append(left[at].Attrs, attr("more", ""), attr("more2", ""))
	}
	_ = append(left[:2:2], text("more"))
	_ = append(of[:1:1], found(99, "more"))
	if got := show(left, of, api.OK); got != want {
		t.Errorf("%s\nnot\n%s", got, want)
	}
	seen := map[*api.Attr]bool{}
	for _, y := range left {
		l := y.Attrs[:cap(y.Attrs)]
		for at := range l {
			if seen[&l[at]] {
				t.Error("two lists share memory")
			}
			seen[&l[at]] = true
		}
	}
}

// R4: two filters know nothing of each other, and calls by many goroutines answer what each answers alone.
func TestApart(t *testing.T) {
	r := rand.New(rand.NewSource(8))
	var policies []api.Policy
	var lists [][]api.Token
	var alone []string
	for range 60 {
		p, l := somePolicy(r), someTokens(r, 40)
		policies, lists = append(policies, p), append(lists, l)
		alone = append(alone, show(allOf(p, l...)))
	}
	// Two filters of one policy, fed by turns.
	for at, p := range policies {
		f, g := made(t, p), made(t, p)
		m, n := &model{p: p}, &model{p: p}
		others := lists[(at+1)%len(lists)]
		for i := range max(len(lists[at]), len(others)) {
			if i < len(lists[at]) && show(f.Take(lists[at][i])) != show(m.take(lists[at][i])) {
				t.Fatal("the first one")
			}
			if i < len(others) && show(g.Take(others[i])) != show(n.take(others[i])) {
				t.Fatal("the second one")
			}
		}
	}
	var wait sync.WaitGroup
	for worker := range 4 {
		wait.Go(func() {
			for i := range policies {
				at := (i*7 + worker) % len(policies)
				if show(filter.All(policies[at], lists[at]...)) != alone[at] {
					t.Errorf("policy %d", at)
				}
			}
		})
	}
	wait.Wait()
}
