package value_test

import (
	"math"
	"strings"
	"testing"
	"unicode/utf8"

	"sieve/api"
	"sieve/input"
	"sieve/value"
)

// takes: Tidy writes a value of a kind so, and Check takes it.
func takes(t *testing.T, r api.Rule, schemes []string, relative bool, v, want string) {
	t.Helper()
	if got, ok, e := value.Tidy(r, schemes, relative, v); got != want || !ok || e != api.OK {
		t.Errorf("Tidy(%d, %q): %q, %v, %d; want %q", r.Kind, v, got, ok, e, want)
	}
	if ok, e := value.Check(r, schemes, relative, v); !ok || e != api.OK {
		t.Errorf("Check(%d, %q): %v, %d", r.Kind, v, ok, e)
	}
}

// refuses: neither Tidy nor Check takes a value of a kind, and nothing is told beside that.
func refuses(t *testing.T, r api.Rule, schemes []string, relative bool, v string) {
	t.Helper()
	if got, ok, e := value.Tidy(r, schemes, relative, v); got != "" || ok || e != api.OK {
		t.Errorf("Tidy(%d, %q): %q, %v, %d", r.Kind, v, got, ok, e)
	}
	if ok, e := value.Check(r, schemes, relative, v); ok || e != api.OK {
		t.Errorf("Check(%d, %q): %v, %d", r.Kind, v, ok, e)
	}
}

// P13.2: any value is written as it is read: mended, and plain.
func TestAny(t *testing.T) {
	r := api.Rule{Kind: api.ValueAny}
	for v, want := range map[string]string{
		"": "", "a": "a", " a\t\n\f b ": " a\t\n\f b ", "<\">&'": "<\">&'", "é\u00a0€": "é\u00a0€", "\x01": "\ufffd", "a\r\nb": "a\n\nb", "\xff": "\ufffd", "javascript:x": "javascript:x",
	} {
		takes(t, r, nil, false, v, want)
	}
	for _, b := range append(broken, unplain...) {
		takes(t, r, nil, false, b[0], b[1])
		takes(t, r, nil, false, "a"+b[0]+"z"+b[0], "a"+b[1]+"z"+b[1])
	}
	long := strings.Repeat("a \xff", 1<<16)
	takes(t, r, nil, false, long, strings.Repeat("a \ufffd", 1<<16))
}

// P13.2: a flag takes any value, and is written empty.
func TestFlag(t *testing.T) {
	for _, v := range []string{"", "a", " ", "checked", "\xff", "\x00", "a b", strings.Repeat("x", 1000)} {
		takes(t, api.Rule{Kind: api.ValueFlag, Words: []string{"a"}}, []string{"https"}, true, v, "")
	}
}

// P13.2: tokens, with blanks of each kind at both ends and between words.
func TestTidyTokens(t *testing.T) {
	r := api.Rule{Kind: api.ValueTokens}
	for v, want := range map[string]string{
		"": "", " ": "", "\t\n\f\r ": "", "a": "a", " a\tb  a ": "a b a", "\ta": "a", "a\n": "a", "\fa\f": "a", "\ra\r": "a", "a\rb": "a b", "a\r\nb": "a b", "a\tb\nc\fd e": "a b c d e", "a \t\n\f b": "a b",
		"B a B": "B a B", "a\vb": "a\ufffdb", "a\u00a0b": "a\u00a0b", "a\u0085b": "a\ufffdb", "\u2003a\u3000b": "\u2003a\u3000b", "a,b": "a,b", "\x00 \xff": "\ufffd \ufffd", "\xe2\x82 a": "\ufffd a", "é  €": "é €",
	} {
		takes(t, r, nil, false, v, want)
	}
}

// P13.2: names, with every sign that may stand in one, and with signs that may not.
func TestName(t *testing.T) {
	r := api.Rule{Kind: api.ValueName}
	most := "x" + strings.Repeat("1", api.MaxName-1)
	for _, v := range []string{"a", "z", "A", "Z", "a0", "a9", "a:b.c-1", "a-", "a_", "a.", "a:", "a--", "a::", "Az09-_.:", "abcdefghijklmnopqrstuvwxyz", "aABCDEFGHIJKLMNOPQRSTUVWXYZ", "b0123456789-_.:", most, strings.Repeat("Z", api.MaxName)} {
		takes(t, r, nil, false, v, v)
	}
	for _, v := range []string{"", "1a", "0", "-a", "_a", ".a", ":a", "-", " a", "a ", "a b", "a\tb", "a\n", "\ra", "a,", "a,b", "a;", "a/b", "a+b", "a#", "#a", "a%", "a@b", "a[b", "a`b", "a{b", "a\"", "a'", "a<", "a\x00", "a\x7f", "é", "aé", "a\u00a0", "\u212a", "a\u212a", "aſ", "a１", "ａ", "a\xff", "\xff", "a\xe2\x82", "a\ufffd",
		most + "1", strings.Repeat("a", api.MaxName+1), strings.Repeat("a", api.MaxName) + "\xff", strings.Repeat("a", 1<<16)} {
		refuses(t, r, nil, false, v)
	}
}

// P13.2: numbers of one to nine digits, written without noughts at the front.
func TestTidyNumber(t *testing.T) {
	r := api.Rule{Kind: api.ValueNumber}
	for v, want := range map[string]string{
		"0": "0", "1": "1", "9": "9", "007": "7", "10": "10", "0010": "10", "000000000": "0", "00": "0", "000000001": "1", "123456789": "123456789", "999999999": "999999999", "100000000": "100000000", "090909090": "90909090",
	} {
		takes(t, r, nil, false, v, want)
	}
	for _, v := range append([]string{"5%", "0%"}, noNumbers...) {
		refuses(t, r, nil, false, v)
	}
}

// P13.2: lengths are numbers, with no or one % behind.
func TestLength(t *testing.T) {
	r := api.Rule{Kind: api.ValueLength}
	for v, want := range map[string]string{
		"0": "0", "7": "7", "007": "7", "50%": "50%", "050%": "50%", "0%": "0%", "000%": "0%", "100%": "100%", "123456789": "123456789", "123456789%": "123456789%", "000000000%": "0%", "000000050%": "50%",
	} {
		takes(t, r, nil, false, v, want)
	}
	for _, v := range []string{"%", "%%", "5%%", "5%%%", "%5", "5%5", "5%5%", "5 %", "5% ", " 5%", "-5%", "+5%", "5.5%", "1234567890%", "0000000000%", "５%", "5％", "5px", "5%\x00", "5\xff%", "5%\xff", "%\n", "5e1%", "0x5%"} {
		refuses(t, r, nil, false, v)
	}
	for _, v := range noNumbers {
		refuses(t, r, nil, false, v)
		refuses(t, r, nil, false, v+"%")
	}
}

// P13.2: languages are groups, the first of letters alone.
func TestLang(t *testing.T) {
	r := api.Rule{Kind: api.ValueLang}
	most := "abcdefgh" + strings.Repeat("-1234567z", 10) + "-a"
	for _, v := range []string{"a", "Z", "de", "DE", "de-CH-1996", "abcdefgh", "ABCDEFGH", "a-b", "a-1", "a-12345678", "a-abcdefgh", "x-0-9-a-Z", "i-1a2b3c4d", "zh-Hant-TW", most, strings.Repeat("a-", 49) + "ab"} {
		if len(v) > api.MaxName {
			t.Fatalf("%q", v)
		}
		takes(t, r, nil, false, v, v)
	}
	if len(most) != api.MaxName {
		t.Fatal(len(most))
	}
	for _, v := range []string{"", "-", "--", "de-", "-de", "de--CH", "de-CH-", "-de-", "123", "1", "d1", "1d", "d1-CH", "123-de", "abcdefghi", "abcdefghi-a", "a-abcdefghi", "a-123456789", "de_CH", "de CH", " de", "de ", "de\t", "de-\n", "de\r", "de,CH", "de:CH", "de.", "dé", "é", "de-é", "d\u212a", "de-１", "de\xff", "\xff", "de-\xff", "de\x00", "de\ufffd", "a-*", "*",
		most + "b", strings.Repeat("a-", 50) + "a", strings.Repeat("a", 1<<16), strings.Repeat("-", 1<<16)} {
		refuses(t, r, nil, false, v)
	}
}

// P13.2: links that may be, written as they are stripped, and links that may not be.
func TestLink(t *testing.T) {
	r := api.Rule{Kind: api.ValueLink}
	both := []string{"https", "mailto"}
	for v, want := range map[string]string{
		"https:": "https:", "HTTPS://x": "HTTPS://x", " ht\ntps\t:\rx ": "https:x", "mailto:a@b": "mailto:a@b", "MailTo:": "MailTo:", "https:a b": "https:a b", "https:\xff": "https:\ufffd", "https:a\x01": "https:a\ufffd", "https:\\\\x": "https:\\\\x", "\fhttps:a\fb\f": "https:a\fb",
	} {
		takes(t, r, both, false, v, want)
		takes(t, r, both, true, v, want)
		refuses(t, r, nil, false, v)
		refuses(t, r, nil, true, v)
		refuses(t, r, []string{"http", "tel"}, true, v)
	}
	for v, want := range map[string]string{
		"": "", " ": "", "\t\r\n": "", "/a b": "/a b", "  a  ": "a", "a\tb": "ab", "//x": "//x", "?a:b": "?a:b", "#": "#", "1a:b": "1a:b", "\xff": "\ufffd", ":": ":", "a\r\n/b": "a/b", "\x01javascript:x": "\ufffdjavascript:x", "javascript\x00:x": "javascript\ufffd:x", "\x00": "\ufffd", "\x1f a": "\ufffd a",
	} {
		takes(t, r, both, true, v, want)
		takes(t, r, nil, true, v, want)
		refuses(t, r, both, false, v)
		refuses(t, r, nil, false, v)
	}
	for _, v := range []string{" java\nscript:x", "javascript:x", "JAVASCRIPT:x", "java\r\nscript:", "\fjavascript:x", "data:", "http:x", "httpss:x", "x:", "https.:", "file:///a"} {
		refuses(t, r, both, true, v)
		refuses(t, r, both, false, v)
	}
}

// P13.2: where one of the schemes may not be, no link may be; other kinds know nothing of them.
func TestWrongSchemes(t *testing.T) {
	for _, l := range [][]string{{"javascript"}, {"data", "https"}, {"https", "data"}, {"https", "", "http"}, {"HTTPS"}, {"https", "http", "1"}, {"https:", "https"}, {"https", " http"}, {"é"}, {"https", "a\xff"}, {strings.Repeat("a", api.MaxName+1)}} {
		for _, relative := range []bool{false, true} {
			for _, v := range []string{"", "a", "/a", "https:x", "http:x", "javascript:x", "data:x", "\xff", "1:"} {
				refuses(t, api.Rule{Kind: api.ValueLink}, l, relative, v)
			}
			takes(t, api.Rule{Kind: api.ValueAny}, l, relative, "a", "a")
			takes(t, api.Rule{Kind: api.ValueOneOf, Words: []string{"a"}}, l, relative, "A", "a")
			takes(t, api.Rule{Kind: api.ValueName}, l, relative, "https:x", "https:x")
		}
	}
}

// oneOf: the rule that takes one of some words.
func oneOf(words ...string) api.Rule { return api.Rule{Kind: api.ValueOneOf, Words: words} }

// P13.2: one of the words, with capitals on each side.
func TestOneOf(t *testing.T) {
	for _, v := range []string{"left", "LEFT", "Left", "lEFt"} {
		takes(t, oneOf("Left", "right"), nil, false, v, "left")
		takes(t, oneOf("right", "LEFT", "left"), nil, false, v, "left")
		takes(t, oneOf("left"), nil, false, v, "left")
		refuses(t, oneOf("right"), nil, false, v)
		refuses(t, oneOf(), nil, false, v)
	}
	takes(t, oneOf("abcdefghijklmnopqrstuvwxyz"), nil, false, "ABCDEFGHIJKLMNOPQRSTUVWXYZ", "abcdefghijklmnopqrstuvwxyz")
	takes(t, oneOf("ABCDEFGHIJKLMNOPQRSTUVWXYZ"), nil, false, "abcdefghijklmnopqrstuvwxyz", "abcdefghijklmnopqrstuvwxyz")
	takes(t, oneOf("@[`{"), nil, false, "@[`{", "@[`{")
	refuses(t, oneOf("@[`{"), nil, false, "`{@[")
	for _, v := range []string{"", "lef", "leftt", " left", "left ", "left right", "le\tft", "left\n", "left,right", "left\xff", "left\x00", "ｌeft"} {
		refuses(t, oneOf("Left", "right"), nil, false, v)
	}
}

// P13.2: words that are empty, that have blanks, and that lie beyond ASCII.
func TestOddWords(t *testing.T) {
	refuses(t, oneOf(), nil, false, "")
	takes(t, oneOf(""), nil, false, "", "")
	takes(t, oneOf("a", ""), nil, false, "", "")
	refuses(t, oneOf("", "a"), nil, false, " ")
	for _, w := range []string{"A b", " a", "a ", "a  b", "a\tb", "\n", "a\fB"} {
		takes(t, oneOf("x", w), nil, false, w, strings.ToLower(w))
		refuses(t, oneOf("x", w), nil, false, strings.ReplaceAll(w, " ", "\t")+"\t")
		refuses(t, oneOf("x", w), nil, false, strings.Join(strings.Fields(w), "")+"-")
	}
	takes(t, oneOf("a\nb"), nil, false, "A\rB", "a\nb")
	takes(t, oneOf("É"), nil, false, "É", "É")
	refuses(t, oneOf("É"), nil, false, "é")
	refuses(t, oneOf("é"), nil, false, "É")
	takes(t, oneOf("éA"), nil, false, "éa", "éa")
	refuses(t, oneOf("k"), nil, false, "\u212a")
	refuses(t, oneOf("\u212a"), nil, false, "k")
	refuses(t, oneOf("s"), nil, false, "ſ")
	refuses(t, oneOf("ｌ"), nil, false, "Ｌ")
	takes(t, oneOf("Ω😀"), nil, false, "Ω😀", "Ω😀")
}

// P13.2, P13.5, R6: words that are no UTF-8 are mended; what is not plain in a word is in no value.
func TestBrokenWords(t *testing.T) {
	for _, b := range broken {
		takes(t, oneOf("x", b[0]), nil, false, b[0], b[1])
		takes(t, oneOf("A"+b[0]+"B"), nil, false, "a"+b[1]+"b", "a"+b[1]+"b")
		takes(t, oneOf("A"+b[1]+"B"), nil, false, "a"+b[0]+"B", "a"+b[1]+"b")
		refuses(t, oneOf(b[0]), nil, false, b[1]+"\ufffd")
		refuses(t, oneOf(b[0]), nil, false, "")
	}
	for _, u := range unplain {
		refuses(t, oneOf(u[0], "a"+u[0]), nil, false, u[0])
		refuses(t, oneOf(u[0], "a"+u[0]), nil, false, u[1])
		refuses(t, oneOf(u[0], "a"+u[0]), nil, false, "a"+u[0])
		takes(t, oneOf(u[0], u[1]), nil, false, u[0], u[1])
		takes(t, oneOf("\xff"+u[0], "a"+u[1]), nil, false, "A"+u[0], "a"+u[1])
	}
}

// P13.2, P13.3: kinds that there are not, whatever stands beside them.
func TestNoKind(t *testing.T) {
	for _, k := range []api.ValueKind{-1, 9, 10, 100, -100, math.MaxInt, math.MinInt, math.MaxInt32, math.MinInt32} {
		for _, v := range []string{"", "a", "7", "\xff"} {
			r := api.Rule{Name: "x", Kind: k, Words: []string{"a"}}
			if s, ok, e := value.Tidy(r, []string{"javascript"}, true, v); s != "" || ok || e != api.ErrValueKind {
				t.Errorf("Tidy(%d, %q): %q, %v, %d", k, v, s, ok, e)
			}
			if ok, e := value.Check(r, []string{"https"}, true, v); ok || e != api.ErrValueKind {
				t.Errorf("Check(%d, %q): %v, %d", k, v, ok, e)
			}
		}
	}
	for _, k := range kinds {
		if _, e := value.Check(api.Rule{Kind: k}, nil, false, ""); e != api.OK {
			t.Errorf("Check(%d): %d", k, e)
		}
	}
}

// P13.2: words, schemes and a name count for nothing where the kind does not ask for them.
func TestBeside(t *testing.T) {
	for _, k := range kinds {
		for _, v := range []string{"", "a", "7", "5%", "de-CH", "https:x", "x y", "\xff"} {
			bare, ok, _ := value.Tidy(api.Rule{Kind: k}, nil, true, v)
			if k != api.ValueOneOf {
				if s, o, _ := value.Tidy(api.Rule{Name: "\xff", Kind: k, Words: []string{"left", "\x00"}}, nil, true, v); s != bare || o != ok {
					t.Errorf("%d, %q: %q, %v; %q, %v", k, v, s, o, bare, ok)
				}
			}
			if k != api.ValueLink {
				if s, o, _ := value.Tidy(api.Rule{Kind: k}, []string{"https", "1"}, false, v); s != bare || o != ok {
					t.Errorf("%d, %q: %q, %v; %q, %v", k, v, s, o, bare, ok)
				}
			}
		}
	}
}

// held: Tidy and Check answer what the chapter's words say; what is written stays, is plain and valid, and has such blanks alone as may be (P13.2 to P13.5).
func held(t *testing.T, r api.Rule, schemes []string, relative bool, v string) {
	t.Helper()
	got, ok, e := value.Tidy(r, schemes, relative, v)
	if want, may := modelTidy(r, schemes, relative, v); got != want || ok != may || e != api.OK {
		t.Fatalf("Tidy(%+v, %q, %v, %q): %q, %v, %d; want %q, %v", r, schemes, relative, v, got, ok, e, want, may)
	}
	if may, e := value.Check(r, schemes, relative, v); may != ok || e != api.OK {
		t.Fatalf("Check(%+v, %q, %v, %q): %v, %d", r, schemes, relative, v, may, e)
	}
	if !ok {
		return
	}
	if again, ok, e := value.Tidy(r, schemes, relative, got); again != got || !ok || e != api.OK {
		t.Fatalf("Tidy(%+v, %q) again: %q, %v, %d; %q", r, v, again, ok, e, got)
	}
	if !utf8.ValidString(got) || input.Clean(got) != got {
		t.Fatalf("Tidy(%+v, %q): %q", r, v, got)
	}
	switch r.Kind {
	case api.ValueAny, api.ValueLink, api.ValueOneOf:
	case api.ValueTokens:
		if strings.ContainsAny(got, "\t\n\f\r") || strings.Contains(got, "  ") || strings.HasPrefix(got, " ") || strings.HasSuffix(got, " ") {
			t.Fatalf("Tidy(%+v, %q): %q", r, v, got)
		}
	default:
		if strings.ContainsAny(got, "\t\n\f\r ") {
			t.Fatalf("Tidy(%+v, %q): %q", r, v, got)
		}
	}
}

// P13.2 to P13.5: all short texts of the signs that matter, and every byte everywhere, of all kinds.
func TestTidyInAllOrders(t *testing.T) {
	words := []string{"A", "zA", "é", "a\xff", "\x00", "7", "", "a b"}
	all := func(v string) {
		for _, k := range kinds {
			held(t, api.Rule{Kind: k, Words: words}, []string{"a", "za"}, true, v)
		}
		held(t, api.Rule{Kind: api.ValueLink}, []string{"a"}, false, v)
	}
	texts(3, signs, all)
	everywhere(all)
	texts(5, []string{"a", ":", "\n", " ", "/"}, all)
	texts(7, []string{"0", "7", "%"}, all)
	texts(7, []string{"a", "1", "-"}, all)
	texts(8, []string{"a", " "}, all)
	texts(5, []string{"0123", "45678", "%", "-"}, all)
	texts(5, []string{"abcd", "1234", "-", "x"}, all)
}

// P13.2: names and languages of every length up to MaxName and beyond.
func TestLengths(t *testing.T) {
	for n := range 2*api.MaxName + 1 {
		for _, v := range []string{strings.Repeat("a", n), strings.Repeat("7", n), strings.Repeat("0", n), strings.Repeat("0", n) + "%", strings.Repeat("a-", n/2) + strings.Repeat("b", n%2), strings.Repeat("abcdefg-", n/8) + "a1234567"[:n%8], strings.Repeat("é", n), "a" + strings.Repeat("\xff", n)} {
			for _, k := range kinds {
				held(t, api.Rule{Kind: k, Words: []string{v}}, []string{"https"}, true, v)
			}
		}
	}
}
