package filter_test

import (
	"strings"
	"testing"

	"sieve/api"
)

// lengthPolicy: one whose rules let every value through as it is.
func lengthPolicy(window int) api.Policy {
	return api.Policy{Elements: []api.Element{element("a", rule("x", 0), rule("data-long", 0), rule("f", 8), rule("n", 3)), element("blockquote"), element("b")}, Global: []api.Rule{rule("y", 0)}, Depth: 9, Window: window}
}

// P15.2: what each sign counts: a tag whose length is the window stays, one more does not.
func TestWindow(t *testing.T) {
	for sign, n := range map[string]int{"x": 1, "é": 1, "€": 1, "\U0001F600": 1, "'": 1, "=": 1, " ": 1, "\n": 1, ";": 1, "\ufffd": 1, "\u009f": 1, "\u00a1": 1, "&": 5, "<": 4, ">": 4, "\u00a0": 6, `"`: 6} {
		for _, times := range []int{1, 2, 7, 100} {
			// <a x=".."> has 8 runes beside the value.
			size := 8 + n*times
			pad := ""
			if size < 20 {
				pad = strings.Repeat("z", 20-size)
				size = 20
			}
			v := strings.Repeat(sign, times) + pad
			want := start("a", attr("x", strings.ReplaceAll(v, "\u009f", "\ufffd")))
			for _, window := range []int{size, size + 1, size + 1000, 1 << 20} {
				takes(t, made(t, lengthPolicy(window)), start("a", attr("x", v)), one(want))
			}
			for _, window := range []int{size - 1, size - 2, 16} {
				takes(t, made(t, lengthPolicy(window)), self("a", attr("x", v)), nil, found(api.WhyWindow, "a"))
			}
		}
	}
}

// P15.2: the names count too, of the attributes that it keeps alone, with the values as they are written.
func TestWindowNames(t *testing.T) {
	f := made(t, lengthPolicy(24))
	kept := start("a", attr("data-long", "12345678")) // <a data-long="12345678">
	if runes(kept) != 24 {
		t.Fatal(runes(kept))
	}
	takes(t, f, kept, one(kept))
	takes(t, f, start("a", attr("data-long", "123456789")), nil, found(api.WhyWindow, "a"))
	two := start("a", attr("x", "1234"), attr("y", "12345")) // <a x="1234" y="12345">
	two.Attrs[1].Value += "67"
	if runes(two) != 24 {
		t.Fatal(runes(two))
	}
	takes(t, f, two, one(two))
	two.Attrs[0].Value += "5"
	takes(t, f, two, nil, found(api.WhyWindow, "a"))
	// What is not kept does not count.
	takes(t, f, start("a", attr("onclick", strings.Repeat("x", 99)), attr("data-long", "12345678"), attr("n", strings.Repeat("1", 99)), attr(strings.Repeat("z", 99), "")), one(kept),
		found(api.WhyAttr, "onclick"), found(api.WhyValue, "n"), found(api.WhyAttr, strings.Repeat("z", 99)))
	// What is written counts, not what came: noughts at the front go, and so does all of a flag.
	takes(t, f, start("a", attr("n", "000000007"), attr("f", strings.Repeat("x", 99)), attr("y", "1")), one(start("a", attr("n", "7"), attr("f", ""), attr("y", "1"))))
	// The findings of its attributes stand ahead of that of the window.
	takes(t, f, start("a", attr("p", ""), attr("n", "x"), attr("data-long", "123456789"), attr("q", "")), nil,
		found(api.WhyAttr, "p"), found(api.WhyValue, "n"), found(api.WhyAttr, "q"), found(api.WhyWindow, "a"))
	drops(t, f, "", 0)
	// Its end tag goes through.
	takes(t, f, end("a"), one(end("a")))
}

// P15.2: tags of names alone are no longer than the least window; those with one more attribute may be.
func TestWindowLeast(t *testing.T) {
	f := made(t, lengthPolicy(16))
	takes(t, f, start("blockquote"), one(start("blockquote")))
	takes(t, f, start("blockquote", attr("y", "")), nil, found(api.WhyWindow, "blockquote")) // <blockquote y=""> has 17
	takes(t, f, start("b", attr("y", "12345678")), one(start("b", attr("y", "12345678"))))
	takes(t, f, start("b", attr("y", "123456789")), nil, found(api.WhyWindow, "b"))
}

// P15.2: the greatest window.
func TestWindowGreatest(t *testing.T) {
	f := made(t, lengthPolicy(1<<20))
	fits := start("b", attr("y", strings.Repeat("é", 1<<20-8)))
	takes(t, f, fits, one(fits))
	fits.Attrs[0].Value += "x"
	takes(t, f, fits, nil, found(api.WhyWindow, "b"))
	fits.Attrs[0].Value = strings.Repeat("&", (1<<20-8)/5+1)
	takes(t, f, fits, nil, found(api.WhyWindow, "b"))
}
