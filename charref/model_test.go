package charref_test

import (
	"math/big"
	"regexp"
	"slices"
	"strconv"
	"strings"

	"sieve/api"
	"sieve/input"
	"sieve/utf"
)

// windows1252 is the chapter's table, as it stands there.
const windows1252 = `80 20AC, 82 201A, 83 0192, 84 201E, 85 2026, 86 2020, 87 2021, 88 02C6, 89 2030, 8A 0160, 8B 2039, 8C 0152, 8E 017D,
91 2018, 92 2019, 93 201C, 94 201D, 95 2022, 96 2013, 97 2014, 98 02DC, 99 2122, 9A 0161, 9B 203A, 9C 0153, 9E 017E, 9F 0178`

// turned: what the numbers of that table say.
var turned = func() map[rune]rune {
	out := map[rune]rune{}
	for _, row := range strings.Split(windows1252, ",") {
		l := strings.Fields(row)
		number, _ := strconv.ParseInt(l[0], 16, 32)
		says, _ := strconv.ParseInt(l[1], 16, 32)
		out[rune(number)] = rune(says)
	}
	return out
}()

// table: all names by chapter 5's words, each with what it stands for.
var table = func() map[string]string {
	out := map[string]string{}
	for _, e := range api.Entities() {
		means := string(e.First)
		if e.Second != 0 {
			means += string(e.Second)
		}
		out[e.Name+";"] = means
		if e.Bare {
			out[e.Name] = means
		}
	}
	return out
}()

// longestName: no name has more bytes.
var longestName = func() int {
	most := 0
	for name := range table {
		most = max(most, len(name))
	}
	return most
}()

// tails: by the beginning of a name, all that makes names of it.
var tails = func() map[string][]string {
	out := map[string][]string{}
	for name := range table {
		for n := range len(name) {
			out[name[:n]] = append(out[name[:n]], name[n:])
		}
	}
	return out
}()

// saying: what a number says, by the chapter's words.
func saying(number rune) rune {
	if says, ok := turned[number]; ok {
		return says
	}
	if number <= 0 || number > 0x10FFFF || number >= 0xD800 && number <= 0xDFFF {
		return 0xFFFD
	}
	return number
}

// counted: what digits say that are digits.
func counted(digits string, base int) rune {
	n, _ := new(big.Int).SetString(digits, base)
	if n.Cmp(big.NewInt(0x10FFFF)) > 0 {
		return 0xFFFD
	}
	return saying(rune(n.Int64()))
}

var (
	decimal     = regexp.MustCompile(`^#([0-9]+);?`)
	hexadecimal = regexp.MustCompile(`^#[xX]([0-9A-Fa-f]+);?`)
	letters     = regexp.MustCompile(`^[A-Za-z0-9=]`)
)

// whole: what stands behind a &, if that is all: what the reference says, and its bytes (0: none).
func whole(s string, attr bool) (string, int) {
	if l := decimal.FindStringSubmatch(s); l != nil {
		return string(counted(l[1], 10)), len(l[0])
	}
	if l := hexadecimal.FindStringSubmatch(s); l != nil {
		return string(counted(l[1], 16)), len(l[0])
	}
	for n := min(len(s), longestName); n > 0; n-- {
		means, ok := table[s[:n]]
		switch {
		case !ok:
		case attr && s[n-1] != ';' && letters.MatchString(s[n:]):
			return "", 0
		default:
			return means, n
		}
	}
	return "", 0
}

// follows: what may follow a text: each kind of rune, digits and what ends them, and all that makes names of it.
func follows(s string) []string {
	out := []string{"", ";", "a", "f", "g", "z", "A", "F", "Z", "0", "9", "1;", "x", "X", "x1;", "#", "#1;", "=", " ", "&", "\x00", "\xff", "\xc3", "é", "\ufffd"}
	return append(out, tails[s]...)
}

// sure: is what stands behind a & the same, whatever follows?
func sure(s string, attr bool) bool {
	says, size := whole(s, attr)
	for _, more := range follows(s) {
		if is, n := whole(s+more, attr); is != says || n != size {
			return false
		}
	}
	return true
}

// ref is a reference in a text.
type ref struct {
	at   int
	text string
	says string
}

// told is what the chapter asks for of a text.
type told struct {
	out   string // decoded
	clean string // with what is plain of what references said
	refs  []ref
	held  int // how many bytes stand behind the first & that is not sure, with it
}

// model: what is told of a text; if it is not the end, up to the first & of which it is not sure what it is.
func model(s string, attr, end bool) told {
	var t told
	text := utf.Mend(s)
	for at := 0; at < len(text); {
		if text[at] != '&' {
			t.out, t.clean = t.out+text[at:at+1], t.clean+text[at:at+1]
			at++
			continue
		}
		if !end && !sure(text[at+1:], attr) {
			t.held = len(text) - at
			break
		}
		says, size := whole(text[at+1:], attr)
		if size == 0 {
			t.out, t.clean = t.out+"&", t.clean+"&"
			at++
			continue
		}
		t.refs = append(t.refs, ref{at, text[at : at+1+size], says})
		t.out += says
		for _, r := range says {
			t.clean += string(input.Plain(r))
		}
		at += 1 + size
	}
	return t
}

// behind: what is put behind references and their beginnings.
var behind = []string{"", ";", ";;", "a", "Z", "x", "1", "=", "&", " ", "é", "\xff", "in;", "\x00"}

// digits: the digits of numbers, among them none, few, very many, noughts at the front, and what is no digit.
var digits = []string{
	"", "0", "1", "9", "a", "F", "g", "10", "13", "65", "38", "41", "80", "9f", "128", "159", "160", "0065", "00000000000000000000000041",
	"D7FF", "D800", "DFFF", "E000", "55295", "55296", "57343", "57344", "FFFD", "65533", "10FFFF", "110000", "1114111", "1114112", "FFFFFFFF",
	"2147483648", "4294967361", "18446744073709551681", "100000041", "10000000000000041", "99999999999999999999", "+1", "-1", "1_0", "१", "１", "x41", "0x41",
	strings.Repeat("0", 300), strings.Repeat("0", 300) + "41", strings.Repeat("9", 300), "1" + strings.Repeat("0", 300),
}

// asked: the texts that the tests put behind a &, each once, in order.
func asked() []string {
	out := slices.Clone(behind)
	out = append(out, "xyz;", "AmP;", "Amp", "aMP", "&amp;", " amp;", "ａmp;", "ſup;", "\xe2\x82", "\xf0\x9f\x98amp;", strings.Repeat("a", 1<<12), strings.Repeat("&", 100))
	for _, e := range api.Entities() {
		name := e.Name + ";"
		for n := range len(name) + 1 {
			for _, more := range behind {
				out = append(out, name[:n]+more)
			}
		}
	}
	for _, d := range digits {
		for _, head := range []string{"#", "#x", "#X", "#xx", "##", "x", "X#"} {
			for _, more := range behind {
				out = append(out, head+d+more)
			}
		}
	}
	slices.Sort(out)
	return slices.Compact(out)
}

// parts: what texts are put together of.
var parts = []string{
	"&", "&&", ";", "a", "=", "1", "é", "\xff", "\xe2\x82", "\r", "&amp", "&amp;", "&lt;", "&notit;", "&notin;", "&noti", "&no", "&not",
	"&copy=", "&NotEqualTilde;", "&xyz;", "&#", "&#x", "&#x;", "&#65", "&#x41;", "&#0;", "&#13;", "&#x80", "&#xFFFE;", "&#xD800;", "#38;", "x26;",
}

// texts calls for each text of up to so many parts.
func texts(most int, call func(s string)) {
	var more func(s string, left int)
	more = func(s string, left int) {
		call(s)
		if left == 0 {
			return
		}
		for _, p := range parts {
			more(s+p, left-1)
		}
	}
	more("", most)
}
