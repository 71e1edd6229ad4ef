package entity_test

import (
	"slices"
	"strings"

	"sieve/api"
)

// pair is a name, and what it stands for.
type pair struct {
	name  string
	means string
}

// pairs: all names by the chapter's words, in the order of bytes.
func pairs() []pair {
	var out []pair
	for _, e := range api.Entities() {
		means := string(e.First)
		if e.Second != 0 {
			means += string(e.Second)
		}
		out = append(out, pair{e.Name + ";", means})
		if e.Bare {
			out = append(out, pair{e.Name, means})
		}
	}
	slices.SortFunc(out, func(a, b pair) int { return strings.Compare(a.name, b.name) })
	return out
}

// means: what each name stands for.
func means() map[string]string {
	out := map[string]string{}
	for _, p := range pairs() {
		out[p.name] = p.means
	}
	return out
}

// strange: texts that are no names, and no beginnings of any.
var strange = []string{
	";", "&", "&amp;", "&amp", " amp;", "\x00", "\xff", "\xc3", "é", "é;", "\ufffd", "\ufffd;", "xyz", "1", "#38;", "-", "\tamp",
	"ａmp;", "\xe2\x82", "\xf0\x9f\x98", "\n", "ſup;", "\u212aappa;", strings.Repeat("a", 1<<16), strings.Repeat("\xff", 1<<16),
}

// behind: what is put behind names and their beginnings.
var behind = []string{
	"", ";", ";;", "a", "e", "i", "s", "Z", "1", "3", "4", " ", "=", "&", "\x00", "\xff", "\xc3", "é", "\ufffd", "in;", "it;", "inva;", "\u0338",
}

// capitals: a text with its letters turned: all of them great, all small, and one after the other alone.
func capitals(s string) []string {
	out := []string{strings.ToUpper(s), strings.ToLower(s)}
	for at := range len(s) {
		for _, turn := range []func(string) string{strings.ToUpper, strings.ToLower} {
			out = append(out, s[:at]+turn(s[at:at+1])+s[at+1:])
		}
	}
	return out
}

// asked: the texts that the tests ask for: names, with a semicolon and without, bare or not, their beginnings, in
// other capitals, with more behind them, and what is no name at all.
func asked() []string {
	out := append([]string{""}, strange...)
	for _, e := range api.Entities() {
		name := e.Name + ";"
		for n := range len(name) + 1 {
			for _, more := range behind {
				out = append(out, name[:n]+more)
			}
		}
		for n := 1; n < len(name); n++ {
			out = append(out, name[n:], name[:n-1]+name[n:])
		}
		out = append(out, capitals(e.Name)...)
		out = append(out, capitals(name)...)
		out = append(out, name+name, name+e.Name, e.Name+name, " "+name, name+strings.Repeat("x", 5000))
	}
	slices.Sort(out)
	return slices.Compact(out)
}
