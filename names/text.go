package names

import "strings"

// Lower: a text in lower case.
func Lower(s string) string {
	b := []byte(s)
	for at, c := range b {
		// Bytes of longer characters are from 128 on: none of them is taken for a letter.
		b[at] = byte(LowerRune(rune(c)))
	}
	return string(b)
}

// LowerRune: a rune in lower case.
func LowerRune(r rune) rune {
	if Upper(r) {
		r += 'a' - 'A'
	}
	return r
}

// Fold: are two texts the same in lower case?
func Fold(a, b string) bool {
	return len(a) == len(b) && Lower(a) == Lower(b)
}

// Trim: a text without the blanks at its beginning and its end.
func Trim(s string) string {
	for s != "" && Blank(rune(s[0])) {
		s = s[1:]
	}
	for s != "" && Blank(rune(s[len(s)-1])) {
		s = s[:len(s)-1]
	}
	return s
}

// Fields: the longest parts of a text without a blank.
func Fields(s string) []string {
	var out []string
	from := 0
	for at := range len(s) {
		if !Blank(rune(s[at])) {
			continue
		}
		if from < at {
			out = append(out, s[from:at])
		}
		from = at + 1
	}
	if from < len(s) {
		out = append(out, s[from:])
	}
	return out
}

// Collapse: the same, joined by one space each.
func Collapse(s string) string { return strings.Join(Fields(s), " ") }
