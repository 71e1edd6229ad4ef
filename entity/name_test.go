package entity_test

import (
	"math"
	"slices"
	"strings"
	"testing"

	"sieve/api"
	"sieve/entity"
)

// best: the name of a text's runes by the chapter's words, or "".
func best(text string) string {
	out := ""
	for _, p := range pairs() {
		if p.means != text || !strings.HasSuffix(p.name, ";") {
			continue
		}
		if out == "" || len(p.name) < len(out) || len(p.name) == len(out) && p.name < out {
			out = p.name
		}
	}
	return out
}

// P5.2: the chapter's examples, and names of as many bytes, of fewer, of two runes.
func TestNameExamples(t *testing.T) {
	for text, want := range map[string]string{
		"&": "AMP;", "{": "lcub;", "x": "", "}": "rcub;", "[": "lsqb;", "]": "rsqb;", "|": "vert;", "<": "LT;", ">": "GT;",
		"\"": "QUOT;", "©": "COPY;", "®": "REG;", "\u2209": "notin;", "=": "equals;", "=\u20e5": "bne;", "fj": "fjlig;", "f": "", "j": "",
		"<\u20d2": "nvlt;", "\u2242\u0338": "NotEqualTilde;", "\u2242": "", "\u0338": "", "\u205f\u200a": "ThickSpace;", "\u20d2": "",
		"\t": "Tab;", "\n": "NewLine;", " ": "", "é": "eacute;", "\U0001d504": "Afr;", "": "", "\ufffd": "", "\x00": "",
	} {
		if got, ok := entity.Name([]rune(text)...); got != want || ok != (want != "") {
			t.Errorf("Name(%q): %q, %v", text, got, ok)
		}
	}
}

// P5.2, P5.4: of all runes that some name stands for, the best name with a semicolon; it is found, and stands for them.
func TestName(t *testing.T) {
	for _, p := range pairs() {
		r := []rune(p.means)
		got, ok := entity.Name(r...)
		if !ok || got != best(p.means) {
			t.Errorf("Name(%x): %q, %v", r, got, ok)
		}
		if said, ok := entity.Find(got); !ok || !slices.Equal(said, r) {
			t.Errorf("Find(%q): %x, %v", got, said, ok)
		}
	}
}

// P5.2: just these runes: not fewer, not more, in no other order.
func TestNameOfOthers(t *testing.T) {
	for _, e := range api.Entities() {
		for _, r := range [][]rune{
			{e.First, e.First}, {e.First, 0}, {0, e.First}, {e.First, -1}, {e.First, ';'}, {e.First, e.Second, 0}, {e.First, e.Second, e.Second},
			{e.First, e.Second, e.First}, {e.First, 0x338, 0x338}, {'x', e.First}, {e.First, 'x'}, {'&', e.First}, {0, 0, e.First},
		} {
			if got, ok := entity.Name(r...); ok || got != "" {
				t.Errorf("Name(%x): %q, %v", r, got, ok)
			}
		}
		if e.Second == 0 {
			continue
		}
		for _, r := range [][]rune{{e.First}, {e.Second}, {e.Second, e.First}} {
			want := best(string(r))
			if got, ok := entity.Name(r...); got != want || ok != (want != "") {
				t.Errorf("Name(%x): %q, %v", r, got, ok)
			}
		}
	}
}

// P5.2: no rune, runes that are no characters, very many runes.
func TestNameOfNone(t *testing.T) {
	for _, r := range [][]rune{
		nil, {}, {0}, {-1}, {math.MinInt32}, {math.MaxInt32}, {0xD800}, {0xDFFF}, {0x110000}, {0xFFFD}, {0xFFFE}, {'a', 'm', 'p', ';'},
		{-1, 0x338}, {0x2242, 0x338, 0x338}, {0x2242, 0x338, 0}, {0x26 - 1<<31}, slices.Repeat([]rune{'&'}, 1<<16),
	} {
		if got, ok := entity.Name(r...); ok || got != "" {
			t.Errorf("Name of %d runes: %q, %v", len(r), got, ok)
		}
	}
	if got, ok := entity.Name(); ok || got != "" {
		t.Errorf("Name(): %q, %v", got, ok)
	}
}

// P5.2: every rune up to U+FFFF has a name just if the table says so.
func TestNameOfEveryRune(t *testing.T) {
	have := map[rune]int{}
	for _, e := range api.Entities() {
		if e.Second == 0 {
			have[e.First]++
		}
	}
	for r := rune(0); r <= 0xFFFF; r++ {
		if _, ok := entity.Name(r); ok != (have[r] > 0) {
			t.Errorf("Name(%x): %v", r, ok)
		}
	}
}

// encoded: Encode by the chapter's words: Name of two runes, else of one, else the rune.
func encoded(r []rune) string {
	out := ""
	for len(r) > 0 {
		size := min(2, len(r))
		name, ok := entity.Name(r[:size]...)
		if !ok {
			size = 1
			name, ok = entity.Name(r[0])
		}
		if ok {
			out += "&" + name
		} else {
			out += string(r[0])
		}
		r = r[size:]
	}
	return out
}

// P5.2: texts with names of two runes, of the first of them alone, and texts that are no UTF-8.
func TestEncodeExamples(t *testing.T) {
	for s, want := range map[string]string{
		"": "", "x": "x", "a&b": "a&AMP;b", "&amp;": "&AMP;amp&semi;", "fj": "&fjlig;", "f": "f", "fi": "fi", "jf": "jf",
		"ffjj": "f&fjlig;j", "fjfj": "&fjlig;&fjlig;", "f\xffj": "f\ufffdj", "<\u20d2": "&nvlt;", "<": "&LT;", "\u20d2<": "\u20d2&LT;",
		"<<\u20d2": "&LT;&nvlt;", "=\u20e5=": "&bne;&equals;", "\u2242\u0338": "&NotEqualTilde;", "\u2242": "\u2242", "\u2242x": "\u2242x",
		"\u0338\u2242": "\u0338\u2242", "\u2242\u2242\u0338": "\u2242&NotEqualTilde;", "\u205f\u200a\u200a": "&ThickSpace;\u200a",
		"a\xff\xe2\x82b": "a\ufffd\ufffdb", "\xc3": "\ufffd", "\xe2\x89\x82\xcc\xb8\xcc": "&NotEqualTilde;\ufffd", "\xed\xa0\x80": "\ufffd\ufffd\ufffd",
		"\xf0\x9d\x94\x84\xf0\x9d": "&Afr;\ufffd", "<\xe2\x83": "&LT;\ufffd", "\ufffd": "\ufffd", "\x00": "\x00", "\r\n\t ": "\r&NewLine;&Tab; ",
		"é\u00e9e\u0301": "&eacute;&eacute;e\u0301", "{[|]}": "&lcub;&lsqb;&vert;&rsqb;&rcub;",
	} {
		if got := entity.Encode(s); got != want {
			t.Errorf("Encode(%q): %q, not %q", s, got, want)
		}
	}
}

// P5.2: all that names stand for, one beside the other, held against the chapter's words.
func TestEncode(t *testing.T) {
	some := []string{"f", "j", "x", "<", "\u20d2", "=", "\u20e5", "\u2242", "\u0338", "\u205f", "\u200a", "&", "é", ";", "\ufffd"}
	for _, a := range some {
		for _, b := range some {
			for _, c := range some {
				if s := a + b + c; entity.Encode(s) != encoded([]rune(s)) {
					t.Errorf("Encode(%q): %q", s, entity.Encode(s))
				}
			}
		}
	}
	whole := ""
	for _, p := range pairs() {
		whole += p.means
		for _, s := range []string{p.means, p.means + p.means, "f" + p.means, p.means + "\u0338", p.means + "\u20d2", p.means + "\u20e5"} {
			if got := entity.Encode(s); got != encoded([]rune(s)) {
				t.Errorf("Encode(%q): %q", s, got)
			}
		}
	}
	if got := entity.Encode(whole); got != encoded([]rune(whole)) {
		t.Errorf("Encode of all: %q", got)
	}
}

// P5.2: a long text.
func TestEncodeLong(t *testing.T) {
	if got := entity.Encode(strings.Repeat("fj\xffé", 1<<16)); got != strings.Repeat("&fjlig;\ufffd&eacute;", 1<<16) {
		t.Errorf("%d bytes", len(got))
	}
}
