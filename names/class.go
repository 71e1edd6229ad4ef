package names

// Letter: is it A to Z or a to z?
func Letter(r rune) bool {
	switch {
	case r >= 'a' && r <= 'z':
		fallthrough
	case Upper(r):
		return true
	}
	return false
}

// Upper: is it A to Z?
func Upper(r rune) bool { return r >= 'A' && r <= 'Z' }

// Digit: is it 0 to 9?
func Digit(r rune) bool { return r >= '0' && r <= '9' }

// Hex: is it a hexadecimal digit?
func Hex(r rune) bool { return Value(r) >= 0 }

// Blank: is it a tab, a line feed, a form feed or a space?
func Blank(r rune) bool {
	switch r {
	case '\t', '\n', '\f': // no carriage return: the input stream has none left
		fallthrough
	case ' ':
		return true
	}
	return false
}

// Value: what a hexadecimal digit counts; -1 of others.
func Value(r rune) int {
	switch {
	case Digit(r):
		return int(r - '0')
	case r >= 'A' && r <= 'F':
		r = LowerRune(r)
		fallthrough
	case r >= 'a' && r <= 'f':
		return int(r-'a') + 10
	}
	return -1
}
