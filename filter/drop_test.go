package filter_test

import (
	"strings"
	"testing"

	"sieve/api"
	"sieve/filter"
)

// dropped: the names that are dropped with their content, by the policy of TestDropped.
func dropped() []string {
	return append(strings.Fields(rawText), "script", "plaintext", "svg", "math", "u", "title", "textarea", "param", "keygen", "frame", "bgsound")
}

// dropping: a policy that drops some names, of which some would be dropped without its saying so, and some are void.
func dropping() api.Policy {
	p := plain()
	p.Drop = strings.Fields("svg math u title textarea param keygen frame bgsound style br embed")
	return p
}

// P15.2: a name of Drop, each raw text element, script and plaintext: within them nothing is let through or found.
func TestDropped(t *testing.T) {
	f := made(t, dropping())
	for _, name := range dropped() {
		takes(t, f, start(name, attr("href", "x")), nil, found(api.WhyContent, name))
		drops(t, f, name, 1)
		for _, x := range []api.Token{text("x"), text("\x00\r"), start("a", attr("href", "x"), attr("y", "")), end("a"), start("b"), self("b"), end("b"), start("i"), end("i"), start("br"), start("img"), comment("x"), comment(""), comment(name), text(name), doctype(), end("zz"), start(name + "x"), end(name + "x"), start("x" + name)} {
			takes(t, f, x, nil)
			drops(t, f, name, 1)
		}
		for _, other := range dropped() {
			if other != name {
				takes(t, f, start(other), nil)
				takes(t, f, end(other), nil)
				takes(t, f, end(other), nil)
				drops(t, f, name, 1)
			}
		}
		takes(t, f, end(name), nil)
		drops(t, f, "", 0)
		takes(t, f, text("x"), one(text("x")))
		takes(t, f, start("a", attr("href", "x")), one(start("a", attr("href", "x"))))
	}
}

// P15.2: void elements have no content, whether the policy drops them or not.
func TestDroppedVoid(t *testing.T) {
	p := plain()
	p.Drop = strings.Fields(voids)
	for _, f := range []*filter.Filter{made(t, p), made(t, plain())} {
		for _, name := range strings.Fields(voids) {
			for _, x := range []api.Token{start(name), self(name)} {
				takes(t, f, x, nil, found(api.WhyElement, name))
				drops(t, f, "", 0)
				takes(t, f, text("x"), one(text("x")))
			}
			takes(t, f, end(name), nil)
			drops(t, f, "", 0)
		}
	}
}

// P15.2: a dropped element within itself, with other tags between; it is over with the last of its end tags.
func TestDroppedWithin(t *testing.T) {
	f := made(t, dropping())
	takes(t, f, start("svg"), nil, found(api.WhyContent, "svg"))
	for n := 2; n <= 100; n++ {
		takes(t, f, start("b"), nil)
		takes(t, f, start("svg", attr("x", "y")), nil)
		drops(t, f, "svg", n)
		takes(t, f, start("math"), nil)
		takes(t, f, end("a"), nil)
	}
	for n := 99; n >= 1; n-- {
		takes(t, f, text("x"), nil)
		takes(t, f, end("svg"), nil)
		drops(t, f, "svg", n)
		takes(t, f, end("math"), nil)
		takes(t, f, comment("x"), nil)
	}
	takes(t, f, end("svg"), nil)
	drops(t, f, "", 0)
	// More end tags than start tags: there is nothing that they could end, and what is begun then counts from 1 on.
	for range 3 {
		takes(t, f, end("svg"), nil)
		drops(t, f, "", 0)
	}
	takes(t, f, text("y"), one(text("y")))
	takes(t, f, start("svg"), nil, found(api.WhyContent, "svg"))
	drops(t, f, "svg", 1)
	takes(t, f, end("svg"), nil)
	drops(t, f, "", 0)
	takes(t, f, start("math"), nil, found(api.WhyContent, "math"))
	drops(t, f, "math", 1)
}

// P15.2: one that never ends.
func TestDroppedForever(t *testing.T) {
	for _, name := range []string{"svg", "plaintext", "script"} {
		f := made(t, plain())
		takes(t, f, start(name), nil, found(api.WhyContent, name))
		for n := range 5000 {
			takes(t, f, text("x"), nil)
			takes(t, f, end("b"), nil)
			takes(t, f, start(name), nil)
			drops(t, f, name, n+2)
		}
	}
}

// P15.2: a policy without names of Drop drops raw text, script and plaintext all the same, and nothing else.
func TestNoDrop(t *testing.T) {
	p := plain()
	p.Drop = nil
	f := made(t, p)
	for _, name := range append(strings.Fields(rawText), "script", "plaintext") {
		takes(t, f, start(name), nil, found(api.WhyContent, name))
		takes(t, f, text("x"), nil)
		takes(t, f, end(name), nil)
		takes(t, f, text("x"), one(text("x")))
	}
	for _, name := range []string{"svg", "math", "title", "textarea", "template", "select"} {
		takes(t, f, start(name), nil, found(api.WhyElement, name))
		takes(t, f, text("x"), one(text("x")))
		takes(t, f, end(name), nil)
	}
}
