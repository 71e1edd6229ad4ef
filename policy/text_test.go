package policy_test

import (
	"fmt"
	"math/rand"
	"regexp"
	"slices"
	"strconv"
	"strings"
	"testing"

	"sieve/api"
	"sieve/policy"
)

// printed: the text of a valid policy, by the chapter.
func printed(p api.Policy) string {
	p = tidied(p)
	var out strings.Builder
	rules := func(what string, l []api.Rule) {
		for _, r := range l {
			out.WriteString(what + " " + r.Name + " " + kindWords[r.Kind])
			for _, w := range r.Words {
				out.WriteString(" " + w)
			}
			out.WriteString("\n")
		}
	}
	fmt.Fprintf(&out, "depth %d\nwindow %d\n", p.Depth, p.Window)
	if p.Relative {
		out.WriteString("relative\n")
	}
	for _, s := range p.Schemes {
		out.WriteString("scheme " + s + "\n")
	}
	for _, s := range p.Drop {
		out.WriteString("drop " + s + "\n")
	}
	rules("global", p.Global)
	for _, e := range p.Elements {
		out.WriteString("element " + e.Name + "\n")
		rules("attr", e.Rules)
	}
	return out.String()
}

var (
	numberLine = regexp.MustCompile(`\A(depth|window) ([0-9]{1,9})\z`)
	oneLine    = regexp.MustCompile(`(?s)\A(scheme|drop|element) ([^ ]+)\z`)
	ruleLine   = regexp.MustCompile(`(?s)\A(global|attr) ([^ ]+) (any|tokens|name|number|length|link|lang|flag|oneof((?: [^ ]+)*))\z`)
)

// parsed: what Parse answers, by the chapter.
func parsed(text string) (api.Policy, int, api.Errno) {
	p := api.Policy{Depth: 64, Window: 65536}
	once := map[string]bool{}
	for n, line := range strings.Split(text, "\n") {
		if line == "" || strings.HasPrefix(line, "#") {
			continue
		}
		what, _, _ := strings.Cut(line, " ")
		again := once[what] && (what == "depth" || what == "window" || what == "relative")
		once[what] = true
		number, one, r := numberLine.FindStringSubmatch(line), oneLine.FindStringSubmatch(line), ruleLine.FindStringSubmatch(line)
		switch {
		case again:
			return api.Policy{}, n + 1, 145
		case line == "relative":
			p.Relative = true
		case number != nil && what == "depth":
			p.Depth, _ = strconv.Atoi(number[2])
		case number != nil:
			p.Window, _ = strconv.Atoi(number[2])
		case one != nil && what == "scheme":
			p.Schemes = append(p.Schemes, one[2])
		case one != nil && what == "drop":
			p.Drop = append(p.Drop, one[2])
		case one != nil:
			p.Elements = append(p.Elements, api.Element{Name: one[2]})
		case r != nil && (what == "global" || len(p.Elements) > 0):
			word, _, _ := strings.Cut(r[3], " ")
			x := rule(r[2], slices.Index(kindWords, word), strings.Split(r[4], " ")[1:]...)
			if what == "global" {
				p.Global = append(p.Global, x)
			} else {
				e := &p.Elements[len(p.Elements)-1]
				e.Rules = append(e.Rules, x)
			}
		default:
			return api.Policy{}, n + 1, 145
		}
	}
	if e := errorOf(p); e != 0 {
		return api.Policy{}, 0, e
	}
	return p, 0, 0
}

// parses holds Parse's answer against the chapter's.
func parses(t *testing.T, text string) {
	t.Helper()
	want, line, err := parsed(text)
	if p, n, e := policy.Parse(text); show(p) != show(want) || n != line || e != err {
		t.Errorf("Parse(%.300q): line %d, not %d; %d, not %d:\n%.300s", text, n, line, e, err, show(p))
	}
}

// P14.6: the chapter's examples.
func TestTextExamples(t *testing.T) {
	basic, _ := policy.Preset("basic")
	if s, e := policy.Print(basic); e != api.OK || s != "depth 32\nwindow 4096\nelement b\nelement br\nelement code\nelement em\nelement i\nelement p\nelement strong\n" {
		t.Errorf("%q, %d", s, e)
	}
	want := small("a")
	want.Elements[0].Rules = []api.Rule{rule("href", 5)}
	want.Schemes, want.Depth, want.Window = []string{"https"}, 64, 65536
	if p, n, e := policy.Parse("element a\nattr href link\nscheme https\n"); show(p) != show(want) || n != 0 || e != api.OK {
		t.Errorf("%d, %d:\n%s", n, e, show(p))
	}
	if p, n, e := policy.Parse("# x\n\nattr a any\n"); !zero(p) || n != 3 || e != api.ErrPolicyText {
		t.Errorf("%d, %d:\n%s", n, e, show(p))
	}
}

// P14.6: Print by hand: each line, in order, with each kind.
func TestPrintByHand(t *testing.T) {
	p := small("p", "a")
	p.Elements[0].Rules = []api.Rule{rule("k8", 8), rule("k7", 7, "RTL", "#", "auto", "rtl"), rule("k6", 6), rule("k5", 5), rule("k4", 4), rule("k3", 3), rule("k2", 2), rule("k1", 1), rule("k0", 0)}
	p.Global = []api.Rule{rule("lang", 6), rule("dir", 7, "x")}
	p.Schemes, p.Drop = []string{"mailto", "ftp"}, []string{"svg", "math"}
	p.Relative, p.Depth, p.Window = true, 512, 1<<20
	want := `depth 512
window 1048576
relative
scheme ftp
scheme mailto
drop math
drop svg
global dir oneof x
global lang lang
element a
element p
attr k0 any
attr k1 tokens
attr k2 name
attr k3 number
attr k4 length
attr k5 link
attr k6 lang
attr k7 oneof # auto rtl
attr k8 flag
`
	if s, e := policy.Print(p); s != want || e != api.OK || printed(p) != want {
		t.Errorf("%d:\n%s", e, s)
	}
	if s, e := policy.Print(small()); s != "depth 1\nwindow 16\n" || e != api.OK {
		t.Errorf("of nothing: %q, %d", s, e)
	}
}

// P14.6: Check's error of what is printed, and no text.
func TestPrintWrong(t *testing.T) {
	for want, p := range wrongPolicies() {
		if s, e := policy.Print(p); e != want || s != "" {
			t.Errorf("%d, not %d: %q", e, want, s)
		}
	}
}

// P14.6: Parse by hand: the policy as its lines say, in their order, not tidied.
func TestParseByHand(t *testing.T) {
	p, n, e := policy.Parse("element p\nscheme mailto\nattr title any\n#attr x\n\nglobal dir oneof RTL rtl LTR\nattr class tokens\nrelative\nscheme ftp\nelement a\ndrop svg\nwindow 000000016\ndrop math\nattr lang oneof Z\nglobal a flag\ndepth 007")
	want := small("p", "a")
	want.Elements[0].Rules = []api.Rule{rule("title", 0), rule("class", 1)}
	want.Elements[1].Rules = []api.Rule{rule("lang", 7, "Z")}
	want.Global = []api.Rule{rule("dir", 7, "RTL", "rtl", "LTR"), rule("a", 8)}
	want.Schemes, want.Drop = []string{"mailto", "ftp"}, []string{"svg", "math"}
	want.Relative, want.Depth, want.Window = true, 7, 16
	if show(p) != show(want) || n != 0 || e != api.OK {
		t.Errorf("%d, %d:\n%s", n, e, show(p))
	}
	for _, text := range []string{"", "\n", "\n\n\n", "#", "# a\n#depth 0", "##\n\n#\n"} {
		if p, n, e := policy.Parse(text); show(p) != show(api.Policy{Depth: 64, Window: 65536}) || n != 0 || e != api.OK {
			t.Errorf("Parse(%q): %d, %d:\n%s", text, n, e, show(p))
		}
	}
}

// P14.6: a line that says none, or says again what may stand once: its number; ahead of what Check would say.
func TestParseWrong(t *testing.T) {
	for text, line := range map[string]int{
		"depth": 1, "depth ": 1, "depth  5": 1, "depth 5 ": 1, " depth 5": 1, "depth 5 5": 1, "depth x": 1, "depth -5": 1, "depth +5": 1, "depth 5x": 1, "depth ٣": 1, "depth 1234567890": 1, "depth 0000000001": 1, "Depth 5": 1, "depth\t5": 1, "depth 5\r\n": 1,
		"window": 1, "window 1 2": 1, "window 1234567890": 1, "window 16.": 1,
		"relative ": 1, "relative x": 1, " relative": 1, "Relative": 1, "relative\r": 1,
		"scheme": 1, "scheme ": 1, "scheme a b": 1, "scheme  a": 1, "scheme a ": 1,
		"drop": 1, "drop ": 1, "drop a b": 1,
		"element": 1, "element ": 1, "element a b": 1, "element a any": 1, "elements a": 1,
		"global": 1, "global a": 1, "global a ": 1, "global a x": 1, "global a Any": 1, "global a any x": 1, "global a flag x": 1, "global a oneof ": 1, "global a oneof x ": 1, "global a oneof x  y": 1, "global  any": 1, "global a  any": 1, "global a link link": 1,
		"attr a any": 1, "scheme http\nglobal a any\nattr b any\nelement b": 3,
		"element b\nattr": 2, "element b\nattr a": 2, "element b\nattr a none": 2, "element b\nattr a any any": 2, "element b\nattr a number 5": 2,
		"depth 5\ndepth 5": 2, "depth 5\n\n#\nwindow 16\nwindow 17\ndepth 6": 5, "relative\nrelative\n": 2, "relative\nelement b\ndepth 1\nrelative": 4,
		" ": 1, "\n\n ": 3, " #": 1, "#\n #": 2, "x": 1, "\r\n": 1, "\xff": 1, "depth 5\xff": 1, "depth 5\n\xff\ndepth 5": 2, "\x00": 1,
		"element script\ndepth 0\nx": 3, "element li\nscheme javascript\nrelative\nrelative": 4, "attr a any\nattr a any": 1,
	} {
		if p, n, e := policy.Parse(text); !zero(p) || n != line || e != api.ErrPolicyText {
			t.Errorf("Parse(%q): line %d, not %d; %d:\n%s", text, n, line, e, show(p))
		}
		parses(t, text)
	}
}

// P14.6: what is a policy's text, but of one that is not valid: Check's error, and 0.
func TestParseNotValid(t *testing.T) {
	for text, want := range map[string]api.Errno{
		"element script": 140, "element b\nelement b": 140, "element B": 140, "element b\r\n": 140, "element \xff": 140, "element #": 140, "drop b\nelement b": 140, "drop svg\ndrop svg": 140, "drop SVG": 140,
		"element b\nattr style any": 141, "element b\nattr a oneof": 141, "global a oneof": 141, "global href any": 141, "global a any\nglobal a any": 141, "global onx any": 141, "global a oneof \xff": 141, "global A any": 141, "global a oneof " + strings.Repeat("x", 101): 141, "element b\nattr \xff any": 141, "global # any": 141,
		"element li": 142, "element ol\nelement li": 142,
		"scheme javascript": 143, "scheme http\nscheme http": 143, "scheme HTTP": 143, "scheme \xff": 143, "scheme http:": 143,
		"depth 0": 144, "depth 513": 144, "depth 999999999": 144, "window 15": 144, "window 1048577": 144, "window 0": 144, "depth 000000000": 144,
		"depth 0\nscheme x:\nelement li\nglobal a oneof\nelement x": 140, "depth 0\nscheme x:\nelement li\nglobal a oneof": 141, "depth 0\nscheme x:\nelement li": 142, "depth 0\ndrop A\nscheme x:": 143, "depth 0\ndrop A": 140,
	} {
		if p, n, e := policy.Parse(text); !zero(p) || n != 0 || e != want {
			t.Errorf("Parse(%q): line %d; %d, not %d:\n%s", text, n, e, want, show(p))
		}
		parses(t, text)
	}
}

// P14.6: numbers of one to ten digits, with and without noughts at the front.
func TestParseNumbers(t *testing.T) {
	for _, s := range []string{"0", "1", "9", "16", "64", "512", "513", "00", "0512", "000000512", "0000000512", "65536", "1048576", "1048577", "999999999", "123456789", "1000000000", "9999999999", "18446744073709551617", strings.Repeat("0", 9), strings.Repeat("0", 10), strings.Repeat("9", 1000)} {
		for _, what := range []string{"depth ", "window "} {
			parses(t, what+s)
			parses(t, what+s+"\n")
			parses(t, "\n"+what+s+"\nelement b")
		}
	}
}

// P14.6: as many things as may be, and one more.
func TestParseMany(t *testing.T) {
	for _, n := range []int{999, 1000, 1001, 5000} {
		text := ""
		for i := range n {
			text += fmt.Sprintf("drop x%d\n", i)
		}
		parses(t, text)
		parses(t, text+"relative\ndepth 3\nwindow 99")
	}
}

// P14.6: all short texts of lines that say something, nothing, or are wrong, with a line feed at the end and without.
func TestParseLines(t *testing.T) {
	lines := []string{"", "#", "depth 9", "depth 0", "depth", "window 16", "relative", "relative x", "scheme http", "scheme data", "drop b", "drop svg", "global class any", "global dir oneof A b", "global dir oneof", "element b", "element p", "element li", "element ul", "attr class tokens", "attr lang oneof x", "attr x", "attr href link", " ", "x"}
	var all func(text string, n int)
	all = func(text string, n int) {
		for _, line := range lines {
			parses(t, text+line)
			if n > 1 {
				all(text+line+"\n", n-1)
			} else {
				parses(t, text+line+"\n")
			}
		}
	}
	all("", 3)
}

// P14.6: a text with each one byte changed, put in, or taken out.
func TestParseBytes(t *testing.T) {
	text := "depth 12\nwindow 20\nrelative\nscheme ftp\ndrop svg\nglobal a any\n\n#x\nelement b\nattr dir oneof A b\nattr href link\n"
	parses(t, text)
	for at := range len(text) {
		parses(t, text[:at])
		parses(t, text[:at]+text[at+1:])
		for _, c := range []byte("\x00\t\n\r #-09Aabelx\x7f\x80\xc3\xff") {
			parses(t, text[:at]+string([]byte{c})+text[at+1:])
			parses(t, text[:at]+string([]byte{c})+text[at:])
		}
	}
}

// P14.6, P14.10: there and back: Parse of Print is Tidy; Print of Parse is the same text.
func TestThereAndBack(t *testing.T) {
	rnd := rand.New(rand.NewSource(8))
	for range 3000 {
		p := someAny(rnd)
		s, e := policy.Print(p)
		tidy, e2 := policy.Tidy(p)
		if e != errorOf(p) || e != e2 || e != api.OK && s != "" {
			t.Fatalf("%d, %d: %q", e, e2, s)
		}
		if e != api.OK {
			continue
		}
		if s != printed(p) {
			t.Fatalf("Print: %s", s)
		}
		back, n, e := policy.Parse(s)
		if e != api.OK || n != 0 || show(back) != show(tidy) {
			t.Fatalf("Parse: %d, %d:\n%s\nnot\n%s", n, e, show(back), show(tidy))
		}
		if again, e := policy.Print(back); e != api.OK || again != s {
			t.Fatalf("again: %d: %s", e, again)
		}
		// Words with every byte that may be in them.
		if len(p.Elements) > 0 {
			words := ""
			for c := byte(0x21); c < 0x7F; c++ {
				words += string(c)
			}
			p.Elements[0].Rules = []api.Rule{rule("dir", 7, words, "#", "\"", "\\n")}
			s, _ := policy.Print(p)
			tidy, _ := policy.Tidy(p)
			if back, _, e := policy.Parse(s); e != api.OK || show(back) != show(tidy) {
				t.Fatalf("Parse: %d:\n%s\nnot\n%s", e, show(back), show(tidy))
			}
		}
	}
}
