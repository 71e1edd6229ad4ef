package tag_test

import (
	"testing"

	"sieve/api"
	"sieve/tag"
	"sieve/utf"
)

// open: a scanner that has taken so many runes, and has not ended.
func open(t *testing.T, s *tag.Scanner, runes int) {
	t.Helper()
	if x, ok := s.Token(); !same(x, api.Token{}) || ok || s.Runes() != runes || s.Ended() {
		t.Fatalf("behind %d: %#v, %v, %d, %v", runes, x, ok, s.Runes(), s.Ended())
	}
}

// closed: a scanner whose tag has ended with so many runes; it takes no more.
func closed(t *testing.T, s *tag.Scanner, runes int, want api.Token) {
	t.Helper()
	for _, r := range []rune{'>', 'a', 0, -1} {
		if x, ok := s.Token(); !same(x, want) || !ok || s.Runes() != runes || !s.Ended() {
			t.Fatalf("at its end: %#v, %v, %d, %v; want %#v", x, ok, s.Runes(), s.Ended(), want)
		}
		if over, e := s.Put(r); over || e != api.ErrOver {
			t.Fatalf("Put behind the end: %v, %d", over, e)
		}
	}
}

// put: runes that a scanner takes, with no end of the tag.
func put(t *testing.T, s *tag.Scanner, runes ...rune) {
	t.Helper()
	for i, r := range runes {
		if over, e := s.Put(r); over || e != api.OK {
			t.Fatalf("Put(%x), the %d-th: %v, %d", r, i, over, e)
		}
	}
}

// runeByRune: the runes of a text, one by one, end just with the last rune of what Whole says, with that token; at every moment the scanner says what it is at.
func runeByRune(t *testing.T, text string, want answer) {
	t.Helper()
	s := tag.New()
	count := 0
	for at, r := range utf.All([]byte(text)) {
		open(t, s, count)
		last := want.ended && at == want.size-1
		over, e := s.Put(r)
		if want.e != api.OK {
			if e == api.OK && !over && at == 0 && r == '/' {
				count++
				continue
			}
			if over || e != api.ErrTagForm {
				t.Fatalf("%q at %d: %v, %d", text, at, over, e)
			}
			refused(t, s, count)
			return
		}
		if over != last || e != api.OK {
			t.Fatalf("%q at %d: %v, %d", text, at, over, e)
		}
		count++
		if last {
			closed(t, s, count, want.token)
			return
		}
	}
	open(t, s, count)
	if want.ended {
		t.Fatalf("%q: it has not ended", text)
	}
}

// refused: a scanner of which a Put was refused: it takes no more, and stays as it was.
func refused(t *testing.T, s *tag.Scanner, runes int) {
	t.Helper()
	for _, r := range []rune{'a', '/', '>', -1} {
		open(t, s, runes)
		if over, e := s.Put(r); over || e != api.ErrOver {
			t.Fatalf("Put behind one that was refused: %v, %d", over, e)
		}
	}
	open(t, s, runes)
}

// P8.2, P8.3: a start tag, an end tag, rune by rune, by hand.
func TestPutByHand(t *testing.T) {
	s := tag.New()
	open(t, s, 0)
	for i, r := range []rune{'A', ' ', 'X', '=', '\'', '>', '\'', '/'} {
		put(t, s, r)
		open(t, s, i+1)
	}
	if over, e := s.Put('>'); !over || e != api.OK {
		t.Fatalf("%v, %d", over, e)
	}
	closed(t, s, 9, self("a", attr("x", ">")))
	s = tag.New()
	put(t, s, '/', 'P', ' ', 'x', '/')
	open(t, s, 5)
	if over, e := s.Put('>'); !over || e != api.OK {
		t.Fatalf("%v, %d", over, e)
	}
	closed(t, s, 6, end("p"))
}

// P8.2, P8.3: every rune first, and behind a slash: just letters begin a tag.
func TestPutFirst(t *testing.T) {
	some := []rune{-1, -1 << 31, 1<<31 - 1, 0x110000, 0xD800, 0xDFFF, 0xFFFD, 0x212A, 0x131, 0xFF21, 0x1F600}
	for r := range rune(0x300) {
		some = append(some, r)
	}
	for _, r := range some {
		letter := r >= 'a' && r <= 'z' || r >= 'A' && r <= 'Z'
		for _, ahead := range [][]rune{nil, {'/'}} {
			s := tag.New()
			put(t, s, ahead...)
			over, e := s.Put(r)
			switch {
			case over:
				t.Errorf("%x: it has ended", r)
			case letter || r == '/' && ahead == nil:
				if e != api.OK {
					t.Errorf("%x behind %d: %d", r, len(ahead), e)
				}
				open(t, s, len(ahead)+1)
			default:
				if e != api.ErrTagForm {
					t.Errorf("%x behind %d: %d", r, len(ahead), e)
				}
				refused(t, s, len(ahead))
			}
		}
	}
}

// P8.2: behind the beginning no rune is refused, in whatever state; what is no code point, a surrogate, and U+0000 count as U+FFFD.
func TestPutNoCodePoints(t *testing.T) {
	for _, r := range []rune{-1, -1 << 31, 1<<31 - 1, 0x110000, 0xD800, 0xDBFF, 0xDC00, 0xDFFF, 0, 0xFFFD} {
		s := tag.New()
		put(t, s, 'a', r, ' ', r, 'b', r, '=', r, 'c', r, ' ', 'd', '=', '"', r, '"', r, 'e', ' ', 'f', '=', '\'', '&', 'l', 't', r, '\'', ' ', 'g', ' ', r, ' ', '=', ' ', r)
		if over, e := s.Put('>'); !over || e != api.OK {
			t.Fatalf("%x: %v, %d", r, over, e)
		}
		closed(t, s, 36, start("a\ufffd", attr("\ufffdb\ufffd", "\ufffdc\ufffd"), attr("d", "\ufffd"), attr("\ufffde", ""), attr("f", "<\ufffd"), attr("g", ""), attr("\ufffd", "\ufffd")))
	}
	s := tag.New() // the halves of a pair are no character together
	put(t, s, 'a', ' ', 'b', '=', 0xD83D, 0xDE00)
	s.Put('>')
	closed(t, s, 7, start("a", attr("b", "\ufffd\ufffd")))
}

// P8.2: a > in quotes ends nothing, one anywhere else does, in every state.
func TestPutEndsEverywhere(t *testing.T) {
	for _, text := range []string{"a", "/a", "ab", "a ", "a/", "a /", "a b", "a b ", "a b=", "a b= ", "a b=c", "a b=c ", "a b='c'", `a b="c"`, "a b='c' ", "a =", "a b/", "/a b=c", "/a/", "a b=/"} {
		runeByRune(t, text+">", whole(text+">"))
		if got := whole(text + ">"); !got.ended || got.size != len(text)+1 {
			t.Errorf("%q: %#v", text, got)
		}
	}
	for _, text := range []string{"a b='", `a b="`, "a b='c", `a b="'`, "/a b='", `/a b = "x`} {
		runeByRune(t, text+">", whole(text+">"))
		if got := whole(text + ">"); got.ended || got.size != len(text)+1 {
			t.Errorf("%q: %#v", text, got)
		}
	}
}

// P8.2, P8.3, R5: scanners that no call made.
func TestUnmade(t *testing.T) {
	for _, s := range []*tag.Scanner{nil, {}} {
		for range 2 {
			for _, r := range []rune{'a', '/', '>', '1', -1} {
				if over, e := s.Put(r); over || e != api.ErrMade {
					t.Errorf("Put: %v, %d", over, e)
				}
				open(t, s, 0)
			}
		}
	}
}

// R4: two scanners know nothing of each other.
func TestScannersApart(t *testing.T) {
	a, b := tag.New(), tag.New()
	put(t, a, 'a', ' ', 'x', '=')
	put(t, b, '/')
	put(t, a, '1', ' ', 'x')
	b.Put('/')
	put(t, a, '=', '2', ' ', 'y')
	refused(t, b, 1)
	c := tag.New()
	put(t, c, 'c', ' ', 'y', '=', '"')
	a.Put('>')
	closed(t, a, 12, start("a", attr("x", "1"), attr("y", "")))
	put(t, c, '>', '"')
	c.Put('>')
	closed(t, c, 8, start("c", attr("y", ">")))
	refused(t, b, 1)
}
