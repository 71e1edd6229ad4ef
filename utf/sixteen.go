package utf

import "sieve/api"

// Bounds of UTF-16's halves: of a pair's first unit, its second one, and the end of both.
const (
	firstHalf  = 0xD800
	secondHalf = 0xDC00
	halvesEnd  = 0xE000
	paired     = 0x10000 // the first character that needs a pair
	halfCount  = 1024
)

// Sixteen: the UTF-16 units of runes.
func Sixteen(r ...rune) []uint16 {
	var out []uint16
	// By way of a text what is no character becomes U+FFFD.
	for _, c := range string(r) {
		if c < paired {
			out = append(out, uint16(c))
			continue
		}
		above := c - paired
		out = append(out, uint16(firstHalf+above/halfCount), uint16(secondHalf+above%halfCount))
	}
	return out
}

// FromSixteen: the runes of UTF-16 units.
func FromSixteen(u ...uint16) []rune {
	var out []rune
	for at := 0; at < len(u); at++ {
		r := rune(u[at])
		switch {
		case isFirstHalf(u[at]) && at+1 < len(u) && isSecondHalf(u[at+1]):
			at++
			r = paired + (r-firstHalf)*halfCount + rune(u[at]) - secondHalf
		case isFirstHalf(u[at]) || isSecondHalf(u[at]):
			r = api.Replacement
		}
		out = append(out, r)
	}
	return out
}

func isFirstHalf(u uint16) bool { return u >= firstHalf && u < secondHalf }

func isSecondHalf(u uint16) bool { return u >= secondHalf && u < halvesEnd }
