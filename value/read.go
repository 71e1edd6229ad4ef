package value

import (
	"strings"

	"sieve/api"
	"sieve/input"
)

// Tokens: the words of a value.
func Tokens(value string) []string { return words(input.Clean(value)) }

// Number: the number that a value says, if it is one.
func Number(value string) (int, bool) { return number(input.Clean(value)) }

// Date: the year, the month and the day that a value says, if there is such a day.
func Date(value string) (int, int, int, bool) {
	s := input.Clean(value)
	if len(s) != len("0000-00-00") || s[4] != '-' || s[7] != '-' {
		return 0, 0, 0, false
	}
	year, hasYear := number(s[:4])
	month, hasMonth := number(s[5:7])
	day, hasDay := number(s[8:])
	if !hasYear || !hasMonth || !hasDay || !isDay(year, month, day) {
		return 0, 0, 0, false
	}
	return year, month, day, true
}

// Color: the color that a value says, if it is one.
func Color(value string) (uint32, bool) {
	digits, ok := strings.CutPrefix(input.Clean(value), "#")
	short := len(digits) == 3
	if !ok || !short && len(digits) != 6 {
		return 0, false
	}
	var color uint32
	for _, r := range digits {
		d, ok := hexDigit(r)
		if !ok {
			return 0, false
		}
		color = color<<4 | d
		if short {
			color = color<<4 | d
		}
	}
	return color, true
}

// words: the words of a plain text.
func words(s string) []string {
	var out []string
	from := 0
	for at, r := range s {
		if !isBlank(r) {
			continue
		}
		if from < at {
			out = append(out, s[from:at])
		}
		from = at + 1
	}
	if from < len(s) {
		out = append(out, s[from:])
	}
	return out
}

// number: the number that some digits say; the most that there may be fit an int of any width.
func number(s string) (int, bool) {
	if len(s) < 1 || len(s) > 9 {
		return 0, false
	}
	n := 0
	for _, r := range s {
		if !isDigit(r) {
			return 0, false
		}
		n = 10*n + int(r-'0')
	}
	return n, true
}

// isDay: is there such a day?
func isDay(year, month, day int) bool {
	return year >= 1 && month >= 1 && month <= 12 && day >= 1 && day <= days(year, month)
}

// days: how many days a month has.
func days(year, month int) int {
	switch month {
	case 4, 6, 9, 11:
		return 30
	case 2:
		if year%4 == 0 && year%100 != 0 || year%400 == 0 {
			return 29
		}
		return 28
	}
	return 31
}

// isName: can a text stand as a name?
func isName(s string) bool {
	if s == "" || len(s) > api.MaxName {
		return false
	}
	for at, r := range s {
		if !isLetter(r) && (at == 0 || !isDigit(r) && !strings.ContainsRune("-_.:", r)) {
			return false
		}
	}
	return true
}

// isLang: can a text stand for a language?
func isLang(s string) bool {
	if len(s) > api.MaxName {
		return false
	}
	for n, group := range strings.Split(s, "-") {
		if len(group) < 1 || len(group) > 8 {
			return false
		}
		for _, r := range group {
			if !isLetter(r) && (n == 0 || !isDigit(r)) {
				return false
			}
		}
	}
	return true
}

// isPlain: is each rune of a text plain? A word that is not could never be a value, though Clean would make it look like one.
func isPlain(s string) bool {
	for _, r := range s {
		if input.Plain(r) != r {
			return false
		}
	}
	return true
}

// small: a text with its capitals A to Z, and no others, as small letters.
func small(s string) string {
	return strings.Map(func(r rune) rune {
		if r >= 'A' && r <= 'Z' {
			r += 'a' - 'A'
		}
		return r
	}, s)
}

// hexDigit: the number that a hexadecimal digit says.
func hexDigit(r rune) (uint32, bool) {
	switch {
	case isDigit(r):
		return uint32(r - '0'), true
	case r >= 'a' && r <= 'f':
		return uint32(r-'a') + 10, true
	case r >= 'A' && r <= 'F':
		return uint32(r-'A') + 10, true
	}
	return 0, false
}

// isBlank: is a plain rune a blank?
func isBlank(r rune) bool { return r == '\t' || r == '\n' || r == '\f' || r == ' ' }

// isDigit: is a rune one of 0 to 9?
func isDigit(r rune) bool { return r >= '0' && r <= '9' }

// isLetter: is a rune one of A to Z, a to z?
func isLetter(r rune) bool { return r >= 'A' && r <= 'Z' || r >= 'a' && r <= 'z' }
