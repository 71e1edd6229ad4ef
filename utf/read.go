package utf

import (
	"iter"
	"unicode/utf8"

	"sieve/api"
)

// piece is what one step of reading takes: its rune, how many bytes it has, and
// whether the bytes ran out inside a good beginning (later ones may complete it).
type piece struct {
	char rune
	size int
	open bool
}

// first: how many bytes a character has that begins with c (0, if none does),
// and between which bounds its second byte lies.
func first(c byte) (size int, low, high byte) {
	switch {
	case c < 0x80:
		return 1, 0, 0
	case c < 0xC2: // a later byte, or the first of an overlong form
		return 0, 0, 0
	case c < 0xE0:
		return 2, 0x80, 0xBF
	case c == 0xE0: // below E0 A0 all would be overlong
		return 3, 0xA0, 0xBF
	case c == 0xED: // from ED A0 on they would be surrogates
		return 3, 0x80, 0x9F
	case c < 0xF0:
		return 3, 0x80, 0xBF
	case c == 0xF0: // below F0 90 all would be overlong
		return 4, 0x90, 0xBF
	case c < 0xF4:
		return 4, 0x80, 0xBF
	case c == 0xF4: // from F4 90 on they would lie above U+10FFFF
		return 4, 0x80, 0x8F
	}
	return 0, 0, 0
}

// next: the piece that b, which is not empty, begins with. Only a piece that
// begins with a first byte has more than one, and no first byte ever stands
// inside a piece: so from a first byte on, what stands ahead of it is no matter.
func next(b []byte) piece {
	whole, low, high := first(b[0])
	p := piece{char: api.Replacement, size: 1}
reading:
	for p.size < whole {
		switch {
		case p.size == len(b):
			p.open = true
			break reading
		case b[p.size] < low || b[p.size] > high:
			break reading
		}
		low, high = 0x80, 0xBF
		p.size++
	}
	if p.size == whole {
		p.char, _ = utf8.DecodeRune(b[:whole])
	}
	return p
}

// before: where the piece begins that ends at end, and its rune. (A piece has
// to end there; the last byte alone is one, if no longer one does.)
func before(b []byte, end int) (int, rune) {
	at := max(0, end-utf8.UTFMax)
	for {
		p := next(b[at:end])
		if at+p.size == end {
			return at, p.char
		}
		at++
	}
}

// walk: what All tells, of bytes that nobody changes meanwhile.
func walk(b []byte) iter.Seq2[int, rune] {
	return func(yield func(int, rune) bool) {
		for at := 0; at < len(b); {
			p := next(b[at:])
			if !yield(at, p.char) {
				return
			}
			at += p.size
		}
	}
}
