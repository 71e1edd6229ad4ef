package tag_test

import (
	"strconv"
	"strings"
	"testing"

	"sieve/api"
	"sieve/tag"
)

// numbered: so many attributes, each with a name and a value of its own, and how they stand in a tag.
func numbered(n int) ([]api.Attr, string) {
	var out []api.Attr
	var text strings.Builder
	for i := range n {
		a := attr("n"+strconv.Itoa(i), strconv.Itoa(-i))
		out = append(out, a)
		text.WriteString(" " + a.Name + "=" + a.Value)
	}
	return out, text.String()
}

// P8.4: MaxAttrs attributes, one less, one more, many more.
func TestMostAttributes(t *testing.T) {
	for _, n := range []int{0, 1, api.MaxAttrs - 1, api.MaxAttrs, api.MaxAttrs + 1, 3 * api.MaxAttrs} {
		all, text := numbered(n)
		tells(t, "a"+text+">", 0, start("a", all[:min(n, api.MaxAttrs)]...))
		tells(t, "a"+text+" />", 0, self("a", all[:min(n, api.MaxAttrs)]...))
		tells(t, "/a"+text+">", 0, end("a"))
		runeByRune(t, "a"+text+">x", whole("a"+text+">x"))
		if got := tag.Attrs(text); !same(start("a", got...), start("a", all[:min(n, api.MaxAttrs)]...)) {
			t.Errorf("Attrs of %d: %d", n, len(got))
		}
	}
}

// P8.4: those that are left out for their names do not count; those behind the last one are left out, whether they stand twice or not.
func TestMostAttributesTwice(t *testing.T) {
	all, text := numbered(api.MaxAttrs - 1)
	most := append(all, attr("x", "1"))
	again := strings.Repeat(" n0=2 N1 n998='>'", 1000)
	tells(t, "a"+text+again+" x=1>", 0, start("a", most...))
	tells(t, "a"+text+again+" x=1 y=2>", 0, start("a", most...))
	tells(t, "a"+text+" x=1"+again+" y=2 x=3 z='>'/>", 0, self("a", most...))
	tells(t, "a"+strings.Repeat(" n0=0", 2000)+text+" X=1>", 0, start("a", most...))
	tells(t, "a"+text+" x=1 y=2 Y=3 z=\">\" y>", 0, start("a", most...))
	tells(t, "a"+text+" x=1 y>", 0, start("a", most...))
	tells(t, "a"+text+" x=1 y=>", 0, start("a", most...))
	tells(t, "a"+text+" x='1'/y/>", 0, self("a", most...))
	if s := "a" + text + " x=1 y='>"; !whole(s).is(answer{size: len(s)}) {
		t.Error("a quote that is not closed, in one that is left out")
	}
	for _, behind := range []string{">", " =>", " ==x>", " b='c'd>"} {
		holds(t, "a"+text+behind)
		holds(t, "a"+text+" x=1"+behind)
	}
}

// P8.4: very many that stand twice, with almost as many as may be ahead of them: each is told at once.
func TestManyTwice(t *testing.T) {
	all, text := numbered(api.MaxAttrs - 1)
	tells(t, "a"+text+strings.Repeat(" N998", 1<<20)+" last>", 0, start("a", append(all, attr("last", ""))...))
}
