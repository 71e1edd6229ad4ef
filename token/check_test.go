package token_test

import (
	"strconv"
	"strings"
	"testing"

	"sieve/api"
	"sieve/token"
)

// errno: what Check answers.
func errno(may bool) api.Errno {
	if may {
		return api.OK
	}
	return api.ErrTokenForm
}

// P7.1: the chapter's examples, and others by hand.
func TestCheckByHand(t *testing.T) {
	href := attr("href", "x")
	for _, c := range []struct {
		token api.Token
		may   bool
	}{
		{start("A"), false}, {start("a", href, href), false}, {start("a<b"), true}, {text("\xff"), false},
		{text(""), false}, {text("x"), true}, {text("\x00"), true}, {text(" "), true}, {text("\ufffd"), true},
		{comment(""), true}, {comment("-->"), true}, {comment("\xc3"), false}, {doctype(), true}, {api.Token{}, false},
		{start(""), false}, {end(""), false}, {start("h1"), true}, {end("h1"), true}, {start("1h"), false}, {end("/p"), false},
		{start("-a"), false}, {end("éa"), false}, {start("aé"), true}, {end("a-b"), true}, {start("_"), false}, {start("`"), false}, {start("{"), false},
		{start("a\tb"), false}, {start("a\nb"), false}, {start("a\fb"), false}, {start("a b"), false}, {start("a\rb"), true}, {start("a\vb"), true}, {start("a\u00a0b"), true},
		{start("a/"), false}, {start("a>"), false}, {start("aB"), false}, {end("aB"), false}, {start("aÉ"), true}, {start("a\x00"), false}, {start("a<"), true}, {end("a\""), true}, {start("a="), true}, {end("a'=\\"), true},
		{start("\xff"), false}, {start("a\xff"), false}, {end("a\xe2\x82"), false},
		{start("a", attr("", "")), false}, {start("a", attr("", ""), href), false}, {start("a", href, attr("", "")), false},
		{start("a", attr("=", "")), true}, {start("a", attr("=b", "")), true}, {start("a", attr("b=", "")), false}, {start("a", attr("==", "")), false}, {start("a", attr("a=b", "")), false}, {start("a", attr("=b=c", "")), false},
		{start("a", attr("1", "")), true}, {start("a", attr("é", "")), true}, {start("a", attr("<", "")), true}, {start("a", attr("\"'", "")), true}, {start("a", attr("-", "")), true}, {start("a", attr("\r", "")), true},
		{start("a", attr("B", "")), false}, {start("a", attr("b\x00", "")), false}, {start("a", attr("/", "")), false}, {start("a", attr(">", "")), false}, {start("a", attr(" ", "")), false}, {start("a", attr("b\t", "")), false}, {start("a", attr("b\f", "")), false}, {start("a", attr("\nb", "")), false},
		{start("a", attr("b\xff", "")), false}, {start("a", attr("b", "\xff")), false}, {start("a", attr("b", "\x00/> =A")), true},
		{start("a", attr("b", "1"), attr("c", "1"), attr("b", "2")), false}, {start("a", attr("b", "1"), attr("=b", "1"), attr("é", "1")), true},
	} {
		if got := token.Check(c.token); got != errno(c.may) {
			t.Errorf("Check(%#v): %d", c.token, got)
		}
		c.token.At = place
		if got := token.Check(c.token); got != errno(c.may) {
			t.Errorf("Check(%#v), with a place: %d", c.token, got)
		}
	}
}

// P7.1: all kinds with all fields.
func TestCheckFields(t *testing.T) {
	count := 0
	everyField(func(x api.Token) {
		may := mayBe(x)
		if may {
			count++
		}
		if got := token.Check(x); got != errno(may) {
			t.Errorf("Check(%#v): %d", x, got)
		}
	})
	if count == 0 {
		t.Error("none may be")
	}
}

// P7.1: every ASCII byte, and other runes, at every place of a name, of a tag and of an attribute.
func TestCheckNames(t *testing.T) {
	signs := append([]string{}, wrong...)
	for r := range rune(0x300) {
		signs = append(signs, string(r))
	}
	for _, r := range []rune{0x2028, 0x20AC, 0x212A, 0xFF21, 0xFFFD, 0xFFFE, 0x1F600, 0x10FFFF} {
		signs = append(signs, string(r))
	}
	for b := 0x80; b < 0x100; b++ {
		signs = append(signs, string([]byte{byte(b)}))
	}
	for _, sign := range signs {
		for _, name := range []string{sign, sign + "b", "a" + sign, "a" + sign + "b", "=" + sign, "a" + sign + sign} {
			for _, x := range []api.Token{start(name), self(name), end(name), start("a", attr(name, "")), start("a", attr("x", "1"), attr(name, "2")), start("a", attr("b", name)), text(name), comment(name)} {
				if got := token.Check(x); got != errno(mayBe(x)) {
					t.Errorf("Check(%#v): %d", x, got)
				}
			}
		}
	}
}

// P7.1: texts that are no UTF-8, in every field of a token that else may be.
func TestCheckWrongBytes(t *testing.T) {
	for _, s := range wrong {
		for _, x := range []api.Token{
			text(s), text("a" + s + "b"), comment(s), comment("é" + s), start("a" + s), end("a" + s),
			start("a", attr("b"+s, "")), start("a", attr(s, "")), start("a", attr("b", s)), start("a", attr("b", ""), attr("c", "x"+s)),
		} {
			if got := token.Check(x); got != api.ErrTokenForm {
				t.Errorf("Check(%#v): %d", x, got)
			}
			if line, e := token.Print(x); line != "" || e != api.ErrTokenForm {
				t.Errorf("Print(%#v): %q, %d", x, line, e)
			}
		}
	}
}

// P7.1: very many attributes; a name that stands twice among them, wherever it stands.
func TestCheckManyAttrs(t *testing.T) {
	var l []api.Attr
	for i := range 200000 {
		l = append(l, attr("k"+strconv.Itoa(i), ""))
	}
	if got := token.Check(start("a", l...)); got != api.OK {
		t.Errorf("Check: %d", got)
	}
	for _, at := range []int{0, 1, 1000, len(l) - 2} {
		l[len(l)-1].Name = l[at].Name
		if got := token.Check(start("a", l...)); got != api.ErrTokenForm {
			t.Errorf("Check, %d again: %d", at, got)
		}
	}
}

// P7.1: names have no greatest length here.
func TestCheckLongNames(t *testing.T) {
	long := strings.Repeat("a", 1<<20)
	for _, x := range []api.Token{start(long), end(long), start("a", attr(long, long)), text(long), comment(long)} {
		if got := token.Check(x); got != api.OK {
			t.Errorf("Check: %d", got)
		}
	}
	if got := token.Check(start(long + "A")); got != api.ErrTokenForm {
		t.Errorf("Check: %d", got)
	}
}
