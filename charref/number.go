package charref

import (
	"unicode/utf8"

	"sieve/api"
	"sieve/names"
)

// beyond stands for every number above those of code points: more digits do not bring it back.
const beyond = utf8.MaxRune + 1

// windows is what the numbers from 0x80 to 0x9F say: what Windows-1252 has there, or themselves.
var windows = [32]rune{
	0x20AC, 0x0081, 0x201A, 0x0192, 0x201E, 0x2026, 0x2020, 0x2021, 0x02C6, 0x2030, 0x0160, 0x2039, 0x0152, 0x008D, 0x017D, 0x008F,
	0x0090, 0x2018, 0x2019, 0x201C, 0x201D, 0x2022, 0x2013, 0x2014, 0x02DC, 0x2122, 0x0161, 0x203A, 0x0153, 0x009D, 0x017E, 0x0178,
}

// Number: what a numeric reference of these digits says, and whether that is the number itself.
func Number(digits string, hex bool) (rune, bool) {
	base := 10
	if hex {
		base = 16
	}
	n := scan(digits, base)
	if digits == "" || n.to < len(digits) {
		return api.Replacement, false
	}
	r := said(n.value)
	return r, r == n.value
}

// said: what a number says.
func said(number rune) rune {
	switch {
	case number >= 0x80 && number <= 0x9F:
		return windows[number-0x80]
	case number == 0 || !utf8.ValidRune(number):
		return api.Replacement
	}
	return number
}

// number is what was read of a numeric reference.
type number struct {
	base  int
	value rune // of its digits; beyond, if it is greater
	from  int  // where its digits begin
	to    int  // where they end
	size  int  // where it ends itself, with its semicolon
}

// scan goes through the states of a numeric reference: from the # that s begins with, or, if a base is given, from
// the digits.
func scan(s string, base int) number {
	n := number{base: base}
	at, value := 0, 0
	if base != 0 {
		goto start
	}
	n.base = 10
	at++
	if at == len(s) || s[at] != 'x' && s[at] != 'X' {
		goto start
	}
	n.base = 16
	at++
start:
	n.from = at
digit:
	if at == len(s) {
		goto last
	}
	value = names.Value(rune(s[at]))
	if value < 0 || value >= n.base {
		goto last
	}
	n.value = min(n.value*rune(n.base)+rune(value), beyond)
	at++
	goto digit
last:
	n.to, n.size = at, at
	if at < len(s) && s[at] == ';' {
		n.size++
	}
	return n
}

// numeric: Next of what begins with a #.
func numeric(s string, end bool) (string, int, bool) {
	n := scan(s, 0)
	switch {
	case n.to == len(s) && !end: // a digit may follow, an x, or a semicolon
		return "", 0, false
	case n.to == n.from:
		return "", 0, true
	}
	return string(said(n.value)), n.size, true
}
