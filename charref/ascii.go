package charref

import (
	"strconv"
	"strings"
	"unicode/utf8"

	"sieve/api"
	"sieve/entity"
	"sieve/utf"
)

// Encode: the decimal reference of a rune.
func Encode(r rune) string {
	if !utf8.ValidRune(r) {
		r = api.Replacement
	}
	return "&#" + strconv.Itoa(int(r)) + ";"
}

// written is how a rune is written.
type written struct{ text string }

// Ascii: a text in ASCII, by references.
func Ascii(s string, attr bool) string {
	var out strings.Builder
	known := map[rune]written{} // since each rune's reference takes going through the whole table of names
	for _, r := range utf.Mend(s) {
		if !refers(r, attr) {
			out.WriteRune(r)
			continue
		}
		ref, ok := known[r]
		if !ok {
			ref.text = refer(r)
			known[r] = ref
		}
		out.WriteString(ref.text)
	}
	return out.String()
}

// refers: does Ascii write a rune as a reference?
func refers(r rune, attr bool) bool {
	switch r {
	case '&', '<', '>':
		return true
	case '"':
		return attr
	}
	return r >= utf8.RuneSelf
}

// refer: the reference that says a rune; of a rune that no reference says, that of U+FFFD.
func refer(r rune) string {
	if said(r) != r {
		r = api.Replacement
	}
	if name, ok := entity.Name(r); ok {
		return "&" + name
	}
	return "&#x" + strings.ToUpper(strconv.FormatInt(int64(r), 16)) + ";"
}
