package link

import (
	"strings"

	"sieve/api"
	"sieve/names"
	"sieve/utf"
)

// mostDigits: how many digits a number of a good descriptor may have.
const mostDigits = 9

// Srcset: the candidates of a srcset, and whether each one is good.
func Srcset(v string) ([]api.Candidate, bool) {
	var out []api.Candidate
	good := true
	rest := utf.Mend(v)
	for {
		rest = strings.TrimLeftFunc(rest, between)
		if rest == "" {
			return out, good
		}
		var c api.Candidate
		c, rest = candidate(rest)
		out = append(out, c)
		good = good && goodDesc(c.Desc)
	}
}

// Set: the srcset of candidates.
func Set(l ...api.Candidate) string {
	var out strings.Builder
	for i, c := range l {
		if i > 0 {
			out.WriteString(", ")
		}
		out.WriteString(utf.Mend(c.Link))
		if c.Desc != "" {
			out.WriteString(" " + utf.Mend(c.Desc))
		}
	}
	return out.String()
}

// candidate: the one that a text begins with, and what is left behind it.
func candidate(s string) (api.Candidate, string) {
	at := strings.IndexFunc(s, blank)
	if at < 0 {
		at = len(s)
	}
	link, rest := s[:at], s[at:]
	if bare := strings.TrimRight(link, ","); bare != link {
		return api.Candidate{Link: bare}, rest
	}
	end := descEnd(rest)
	desc := strings.Join(strings.FieldsFunc(rest[:end], blank), " ")
	return api.Candidate{Link: link, Desc: desc}, rest[end:]
}

// descEnd: where the descriptor ends that a text begins with: at a comma in no parentheses, or at the end. (Browsers
// read parentheses that nothing closes up to the end.)
func descEnd(s string) int {
	inside := false
	for at := range len(s) {
		switch s[at] {
		case '(':
			inside = true
		case ')':
			inside = false
		case ',':
			if !inside {
				return at
			}
		}
	}
	return len(s)
}

// goodDesc: is a descriptor a width, a density, or none?
func goodDesc(desc string) bool {
	if desc == "" {
		return true
	}
	unit, ok := number(desc)
	if fraction, dot := strings.CutPrefix(unit, "."); ok && dot {
		unit, ok = number(fraction)
		return ok && unit == "x"
	}
	return ok && (unit == "w" || unit == "x")
}

// number: what stands behind the number that a text begins with, and whether it has as many digits as it may.
func number(s string) (string, bool) {
	n := digits(s)
	return s[n:], n >= 1 && n <= mostDigits
}

// blank: is a rune one of a srcset's blanks? (The carriage return is one here.)
func blank(r rune) bool { return names.Blank(r) || r == '\r' }

// between: may a rune stand between candidates?
func between(r rune) bool { return blank(r) || r == ',' }
