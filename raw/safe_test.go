package raw_test

import (
	"strings"
	"testing"

	"sieve/api"
	"sieve/raw"
	"sieve/utf"
)

// safe: Safe answers so.
func safe(t *testing.T, name, s string, want bool) {
	t.Helper()
	if ok, e := raw.Safe(name, s); ok != want || e != api.OK {
		t.Errorf("%s, %q: %v, %d; want %v", name, s, ok, e, want)
	}
}

// P10.6: texts without an end tag, with one, and with a beginning of one at their end.
func TestSafe(t *testing.T) {
	for _, name := range all {
		if name == "plaintext" {
			continue
		}
		for _, s := range []string{"", "x", "a<b>", "<", "</", "</" + name, "</" + name[:2], "<" + name + ">", "</" + name + "s>", "</p>", "\x00", "\xff", "é", "\xe2\x82", "&lt;/" + name + ">", "</" + name + "\xff>", "</ " + name + ">", "</" + name + "<", "x</" + name + "</"} {
			safe(t, name, s, true)
		}
		for _, sign := range fine {
			for _, s := range []string{"</" + name, "a</" + name, "a</" + strings.ToUpper(name), "</</" + name, "\xff</" + name} {
				safe(t, name, s+sign, false)
				safe(t, name, s+sign+"b", false)
			}
		}
	}
}

// P10.6: scripts that leave a part escaped can stand, those that leave one doubly escaped can't: their end tag does not count.
func TestSafeScript(t *testing.T) {
	for _, s := range []string{"<!--", "<!-", "<!", "<!--x", "<!-->", "<!--->", "<!--x-->", "<!--x--", "<!--x-", "<!--<", "<!--</", "<!--<scr", "<!--<script", "<!--</script", "<!--<scriptx>", "<!--<script></script>", "<!--<script></script> x", "<!--<script>-->", "<!--<script>x-->", "<!--<script></script>-->", "<script>", "<script><!--", "<!--><script>", "<!--<script><script></script>"} {
		safe(t, "script", s, true)
	}
	for _, s := range []string{"<!--<script>", "<!--<SCRIPT ", "<!--<script/x", "<!--<script></script", "<!--<script></script\xff", "<!--<script>--", "<!--<script>-", "<!--<script><", "<!--<script></", "<!--<script></script><script>", "<!--<script></script></script>", "<!--</script>", "</script>", "<!----></script>", "<!--<script>--></script>", "<!--<script>--><!--<script>", "<!--<script>--!>"} {
		safe(t, "script", s, false)
	}
}

// P10.6: nothing can stand as plain text ahead of an end tag.
func TestSafePlaintext(t *testing.T) {
	for _, s := range []string{"", "x", "</plaintext>", "<", "\xff", "</plaintext"} {
		safe(t, "plaintext", s, false)
	}
}

// P10.6: by the promise's words, of pieces in every order.
func TestSafePieces(t *testing.T) {
	check := func(name, s string) {
		text := s + "</" + name + ">"
		want := model(name, text) == answer{utf.Mend(s), len(text), true}
		if ok, e := raw.Safe(name, s); ok != want || e != api.OK {
			t.Fatalf("%s, %q: %v, %d; want %v", name, s, ok, e, want)
		}
	}
	for _, name := range all {
		texts(3, piecesOf(name), func(s string) { check(name, s) })
	}
	texts(4, marks, func(s string) { check("script", s) })
}
