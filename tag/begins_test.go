package tag_test

import (
	"strings"
	"testing"

	"sieve/api"
	"sieve/tag"
)

const letters = "abcdefghijklmnopqrstuvwxyzABCDEFGHIJKLMNOPQRSTUVWXYZ"

// P8.1: by hand: nothing, a slash alone, a letter, a slash and a letter, anything else.
func TestBeginsByHand(t *testing.T) {
	starts := []string{"a", "Z", "z", "A", "a>", "p class=x>", "b/", "x\x00", "x\xff", "a é"}
	for _, s := range starts {
		if kind, ok := tag.Begins(s); kind != api.TokenStart || !ok {
			t.Errorf("%q: %d, %v", s, kind, ok)
		}
		if kind, ok := tag.Begins("/" + s); kind != api.TokenEnd || !ok {
			t.Errorf("/%q: %d, %v", s, kind, ok)
		}
	}
	nothing := []string{
		"", "/", "//", "//a", "/ a", "/>", ">", " a", "\ta", "1", "1a", "<a", "<", "!", "!doctype", "?xml", "=", "-", "_a", "&a", "\"a\"",
		"é", "/é", "É", "\x00", "\x00a", "/\x00a", "\xff", "/\xff", "\xe2\x82a", "ａ", "/ａ", "\u0131", "\u212a", "\x1ba", "[", "`", "@", "{",
	}
	for _, s := range nothing {
		if kind, ok := tag.Begins(s); kind != api.TokenText || ok {
			t.Errorf("%q: %d, %v", s, kind, ok)
		}
	}
}

// P8.1: each byte, alone, behind a slash, and with a letter behind it.
func TestBeginsBytes(t *testing.T) {
	for c := range 256 {
		s := string([]byte{byte(c)})
		is := strings.Contains(letters, s)
		for _, behind := range []string{"", "a", ">", "\x80"} {
			kind, ok := tag.Begins(s + behind)
			if want := is || s == "/" && behind == "a"; ok != want || ok != (kind != api.TokenText) {
				t.Errorf("%q: %d, %v", s+behind, kind, ok)
			}
			kind, ok = tag.Begins("/" + s + behind)
			if ok != is || is != (kind == api.TokenEnd) || !is && kind != api.TokenText {
				t.Errorf("%q: %d, %v", "/"+s+behind, kind, ok)
			}
		}
	}
}

// P8.1, P8.4: Whole refuses just what begins no tag; its kind is Begins's.
func TestBeginsIsWhole(t *testing.T) {
	texts(3, pieces, func(s string) {
		kind, ok := tag.Begins(s)
		x, _, ended, e := tag.Whole(s)
		if ok != (e == api.OK) || !ok && e != api.ErrTagForm || ended && x.Kind != kind {
			t.Fatalf("%q: %d, %v; %#v, %d", s, kind, ok, x, e)
		}
	})
}
