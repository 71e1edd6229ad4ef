// Package utf is layer 1: bytes and runes. See shared/doc/01-utf.md.
package utf

import (
	"bytes"
	"iter"
	"strings"

	"sieve/api"
)

// Runes: the runes of bytes.
func Runes(b []byte) []rune {
	var out []rune
	for _, r := range walk(b) {
		out = append(out, r)
	}
	return out
}

// All: the runes with the places of their first bytes.
func All(b []byte) iter.Seq2[int, rune] {
	// The caller may change b while the iterator is still in use.
	return walk(bytes.Clone(b))
}

// Back: the runes with their places, from the last one.
func Back(b []byte) iter.Seq2[int, rune] {
	own := bytes.Clone(b)
	return func(yield func(int, rune) bool) {
		for end := len(own); end > 0; {
			at, r := before(own, end)
			if !yield(at, r) {
				return
			}
			end = at
		}
	}
}

// Bytes: the bytes of runes.
func Bytes(r ...rune) []byte {
	// Go's conversion writes U+FFFD for what is no character, as is asked here.
	return []byte(string(r))
}

// Width: how many bytes a rune has.
func Width(r rune) int { return len(string(r)) }

// Valid: are bytes the bytes of runes, without any that is wrong?
func Valid(b []byte) bool { return firstWrong(string(b)) == len(b) }

// Count: how many runes bytes have.
func Count(b []byte) int {
	n := 0
	for range walk(b) {
		n++
	}
	return n
}

// Tail: how many bytes at the end may be the beginning of a rune.
func Tail(b []byte) int {
	for at := max(0, len(b)-3); at < len(b); at++ {
		if p := next(b[at:]); p.open {
			return p.size
		}
	}
	return 0
}

// Place: the place of the n-th rune's first byte.
func Place(b []byte, n int) (int, api.Errno) {
	k := 0
	for at := range walk(b) {
		if k == n {
			return at, api.OK
		}
		k++
	}
	if k == n {
		return len(b), api.OK
	}
	return 0, api.ErrUtfPlace
}

// Cut: the greatest place up to n that parts no rune.
func Cut(b []byte, n int) int {
	if n < 0 {
		return 0
	}
	if n >= len(b) {
		return len(b)
	}
	for at := max(0, n-3); at < n; at++ {
		if at+next(b[at:]).size > n {
			return at
		}
	}
	return n
}

// Mend: a text of valid bytes alone.
func Mend(s string) string {
	at := firstWrong(s)
	return s[:at] + string(Runes([]byte(s[at:])))
}

// firstWrong: where the first wrong byte of a text stands; its length, if there
// is none. (Go's range parts what is wrong otherwise than WHATWG does, a byte a
// step, but up to the first wrong byte the two agree.)
func firstWrong(s string) int {
	for at, r := range s {
		if r == api.Replacement && !strings.HasPrefix(s[at:], string(api.Replacement)) {
			return at
		}
	}
	return len(s)
}
