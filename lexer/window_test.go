package lexer_test

import (
	"slices"
	"strings"
	"testing"

	"sieve/api"
	"sieve/input"
)

// windows: the least one, and some more.
var windows = []int{16, 17, 20, 33, 100, 1000}

// at: the place of a column of the first line, of a text in ASCII.
func at(byte int) api.Place { return api.Place{Byte: byte, Line: 1, Col: byte + 1} }

// Texts of just a window's runes, of one less, of one more, of many: in data and in every content.
func TestTextWindow(t *testing.T) {
	for _, window := range windows {
		for _, name := range append([]string{"b"}, allRaw...) {
			head := "<" + name + ">"
			for _, size := range []int{1, window - 1, window, window + 1, 2*window - 1, 2 * window, 2*window + 1, 10*window + 3} {
				for _, one := range []string{"x", "é", "\U0001F600", "\x00"} {
					got := lex(t, head+strings.Repeat(one, size), window)[1:]
					text := input.Text([]byte(one))
					for i, left := 0, size; left > 0; i, left = i+1, left-window {
						want := api.Token{Text: strings.Repeat(text, min(window, left)), At: api.Place{Byte: len(head) + i*window*len(one), Line: 1, Col: 1 + len(head) + i*window}}
						if i >= len(got) || !same(got[i:i+1], []api.Token{want}) {
							t.Fatalf("%s, window %d, %d of %q: %v", name, window, size, one, got)
						}
					}
					if len(got) != (size+window-1)/window {
						t.Fatalf("%s, window %d, %d of %q: %d tokens", name, window, size, one, len(got))
					}
				}
			}
		}
	}
}

// P11.1: a text that is full is told with its last rune, and no later; it is not told again.
func TestFullAtOnce(t *testing.T) {
	for _, window := range windows {
		for _, head := range []string{"", "<title>", "<style>", "<script>", "<plaintext>"} {
			l := made(t, window)
			feedText(t, l, head)
			agree(t, feedText(t, l, strings.Repeat("x", window-1)), nil, "not full")
			if got := feedText(t, l, "y"); len(got) != 1 || got[0].Text != strings.Repeat("x", window-1)+"y" {
				t.Fatalf("%s, %d: %v", head, window, got)
			}
			left, _ := l.End()
			agree(t, left, nil, "behind a full one")
		}
	}
}

// A reference counts as what it stands for; one of two runes may be parted by the window.
func TestReferenceWindow(t *testing.T) {
	fill := strings.Repeat("x", 15)
	for _, head := range []string{"", "<title>"} {
		n := len(head)
		for s, want := range map[string][]api.Token{
			fill + "&lt;":                 {{Text: fill + "<", At: at(n)}},
			fill + "&lt;y":                {{Text: fill + "<", At: at(n)}, {Text: "y", At: at(n + 19)}},
			fill + "&lty":                 {{Text: fill + "<", At: at(n)}, {Text: "y", At: at(n + 18)}},
			fill + "&notit;":              {{Text: fill + "¬", At: at(n)}, {Text: "it;", At: at(n + 19)}},
			fill + "&zz":                  {{Text: fill + "&", At: at(n)}, {Text: "zz", At: at(n + 16)}},
			fill + "&#x;":                 {{Text: fill + "&", At: at(n)}, {Text: "#x;", At: at(n + 16)}},
			fill + "&NotEqualTilde;y":     {{Text: fill + "\u2242", At: at(n)}, {Text: "\u0338y", At: at(n + 15)}},
			fill + "x&fjlig;":             {{Text: fill + "x", At: at(n)}, {Text: "fj", At: at(n + 16)}},
			fill + "&&lt;":                {{Text: fill + "&", At: at(n)}, {Text: "<", At: at(n + 16)}},
			"&amp;" + fill + "&#65;":      {{Text: "&" + fill, At: at(n)}, {Text: "A", At: at(n + 20)}},
			strings.Repeat("&#65;", 17):   {{Text: strings.Repeat("A", 16), At: at(n)}, {Text: "A", At: at(n + 80)}},
			fill + "<":                    {{Text: fill + "<", At: at(n)}},
			fill + "</":                   {{Text: fill + "<", At: at(n)}, {Text: "/", At: at(n + 16)}},
			"&unknownnameofmanyletters;":  {{Text: "&unknownnameofma", At: at(n)}, {Text: "nyletters;", At: at(n + 16)}},
			"&" + strings.Repeat("a", 40): {{Text: "&" + strings.Repeat("a", 15), At: at(n)}, {Text: strings.Repeat("a", 16), At: at(n + 16)}, {Text: strings.Repeat("a", 9), At: at(n + 32)}},
		} {
			got := lex(t, head+s, 16)
			if head != "" {
				got = got[1:]
			}
			agree(t, got, want, head+s)
		}
	}
}

// P11.1: where a text gets full by what a reference is, it is told with the cell that makes that sure.
func TestFullByReference(t *testing.T) {
	for _, head := range []string{"", "<textarea>"} {
		for s, sure := range map[string]int{
			"&lt;": 4, "&ltx": 4, "&lt ": 4, "&lt<": 4, "&zz": 3, "&a&": 3, "&aa;": 4, "&#65;": 5, "&#65x": 5, "&#g": 3, "&#xg": 4, "&no<": 4, "& ": 2, "&<": 2, "&&": 2,
		} {
			l := made(t, 16)
			feedText(t, l, head+"0123456789abcde")
			for i := range len(s) {
				if got := feedText(t, l, s[i:i+1]); (len(got) > 0) != (i+1 == sure) {
					t.Errorf("%s, %s: %v behind %d", head, s, got, i+1)
				}
			}
		}
	}
}

// Tags of just a window's runes, of one less, of one more: told, or lost; what stands behind them is read by their names all the same.
func TestTagWindow(t *testing.T) {
	for _, window := range windows {
		for _, name := range append([]string{"b", "p"}, allRaw...) {
			for size := window - 3; size <= window+3; size++ {
				for _, fill := range []string{" ", "/", "é", "x='>'", "\""} {
					inside := ""
					for runes := size - len(name) - 2; runes > 0; {
						if n := len([]rune(fill)); n < runes {
							inside, runes = " "+fill+inside, runes-n-1
						} else {
							inside, runes = " "+inside, runes-1
						}
					}
					tag := "<" + name + inside + ">"
					if len([]rune(tag)) != max(size, len(name)+2) {
						t.Fatalf("%q for %d", tag, size)
					}
					longer(t, window, name, tag)
				}
			}
		}
	}
}

// longer: a start tag, told or lost, and what stands behind it.
func longer(t *testing.T, window int, name, tag string) {
	t.Helper()
	l := made(t, window)
	told := feedText(t, l, "x"+tag)
	fits := len([]rune(tag)) <= window
	if fits != (len(told) == 2) || fits != (len(l.Lost()) == 0) {
		t.Fatalf("%q, window %d: %s, %v", tag, window, lines(told), l.Lost())
	}
	if !fits && l.Lost()[0] != (api.Finding{At: at(1), Why: api.WhyWindow, Name: name}) {
		t.Fatalf("%q, window %d: %v", tag, window, l.Lost())
	}
	if l.Where() != whereOf(name) {
		t.Fatalf("%q, window %d: Where: %d", tag, window, l.Where())
	}
	told = feedText(t, l, "<i>")
	if (len(told) == 1) != (whereOf(name) == api.InData) {
		t.Fatalf("%q, window %d: %s", tag, window, lines(told))
	}
}

// End tags that are lost end what they end.
func TestEndTagLost(t *testing.T) {
	long := strings.Repeat(" x='0123'", 3)
	for _, name := range allRaw {
		l := made(t, 20)
		told := feedText(t, l, "<"+name+">a</"+name+long+">&lt;<b>")
		left, _ := l.End()
		told = append(told, left...)
		if name == "plaintext" {
			if l.Where() != api.InPlaintext || len(l.Lost()) != 0 {
				t.Errorf("plaintext: %d, %v", l.Where(), l.Lost())
			}
			continue
		}
		want := "start \"" + name + "\"\ntext \"a\"\ntext \"<\"\nstart \"b\"\n"
		if lines(told) != want || l.Where() != api.InData {
			t.Errorf("%s: %s, %d", name, lines(told), l.Where())
		}
		if lost := l.Lost(); len(lost) != 1 || lost[0] != (api.Finding{At: at(len(name) + 3), Why: api.WhyWindow, Name: name}) {
			t.Errorf("%s: %v", name, lost)
		}
	}
	for s, want := range map[string]string{"x</b" + long + ">y": "text \"x\"\ntext \"y\"\n", "x</b" + long: "text \"x\"\n"} {
		if got := lines(lex(t, s, 20)); got != want {
			t.Errorf("%s: %s", s, got)
		}
	}
}

// Lost: all of them, in order, with their names, which may be longer than the window; one that does not come to its > is none.
func TestLost(t *testing.T) {
	name := strings.Repeat("n", 40)
	s := "<A title=0123456789>x</B title=0123456789><" + name + "><i><c/title='>0123456789'/></" + strings.ToUpper(name) + "><D 0123456789abcde>z<e 0123456789abcdef"
	l := made(t, 16)
	var got [][]api.Finding
	for _, c := range input.Read([]byte(s)) {
		feed(t, l, c)
		got = append(got, l.Lost())
	}
	var want []api.Finding
	for _, n := range []string{"A title", "B title", name + "><i", "c/", strings.ToUpper(name), "D "} {
		place := strings.Index(s, "<"+n)
		if place < 0 {
			place = strings.Index(s, "</"+n)
		}
		low := strings.ToLower(n)
		if cut := strings.IndexAny(low, " />"); cut >= 0 {
			low = low[:cut]
		}
		want = append(want, api.Finding{At: at(place), Why: api.WhyWindow, Name: low})
	}
	if !slices.Equal(l.Lost(), want) {
		t.Fatalf("%v\nwant: %v", l.Lost(), want)
	}
	for i, list := range got { // they come with their >, one by one
		if !slices.Equal(list, want[:len(list)]) || i > 0 && len(list) > len(got[i-1]) && s[i] != '>' {
			t.Errorf("behind %s: %v", s[:i+1], list)
		}
	}
	for _, e := range []func() ([]api.Token, api.Errno){l.End, l.Stop} {
		e()
		if !slices.Equal(l.Lost(), want) {
			t.Errorf("%v", l.Lost())
		}
	}
}

// A quoted > does not end a tag that is too long, nor does what stands in it begin anything.
func TestLongTagGoesOn(t *testing.T) {
	for s, want := range map[string]string{
		"<a x='0123456789abcdef><b>'>y":                     "text \"y\"\n",
		"<a x=\"0123456789abcdef'><b>\">y":                  "text \"y\"\n",
		"<a x=0123456789abcdef'>y":                          "text \"y\"\n",
		"<a 0123456789abcdef='>'>y":                         "text \"y\"\n",
		"<a 0123456789abcdef '>y":                           "text \"y\"\n",
		"<a 0123456789abcdef = '>'>y":                       "text \"y\"\n",
		"<a x='1' 0123456789abcdef x='>'/>y":                "text \"y\"\n",
		"<title x='0123456789abcdef></title>'><b></title>y": "text \"<b>\"\nend \"title\"\ntext \"y\"\n",
		"</a x='0123456789abcdef><b>'>y":                    "text \"y\"\n",
	} {
		if got := lines(lex(t, s, 16)); got != want {
			t.Errorf("%s: %s", s, got)
		}
		for cut := 16; cut < len(s); cut++ { // at its end alone it is over
			if got := lex(t, "z"+s[:cut], 16); len(got) == 0 || got[0].Text != "z" {
				t.Errorf("%s: %v", s[:cut], got)
			}
		}
	}
}

// Comments are told with the first runes that they say, and end where they would.
func TestCommentWindow(t *testing.T) {
	for _, window := range []int{16, 17, 18, 40} {
		for size := 0; size < 5*window; size++ {
			for _, one := range []string{"x", "é", "-", "!", "--", "-x", "--!", "->", ">-", "--!-", "<!--"} {
				says := string([]rune(strings.Repeat(one, size+1))[:size])
				for _, form := range [][2]string{{"<!--", "-->"}, {"<!--", "--!>"}, {"<!--", ""}, {"<!--x", "-->"}, {"<!", ">"}, {"<?", ">"}, {"</ ", ""}, {"<!doctype", ">"}} {
					s := form[0] + says + form[1] + "y"
					m := model(input.Read([]byte(s)), window)
					agree(t, lex(t, s, window), append(m.told, m.left...), s)
				}
			}
		}
	}
	long := strings.Repeat("0123456789", 100)
	for s, want := range map[string]string{
		"<!--" + long + "-->y":                      "comment \"0123456789012345\"\ntext \"y\"\n",
		"<!--0123456789abcdef-->y":                  "comment \"0123456789abcdef\"\ntext \"y\"\n",
		"<!--0123456789abcdefg-->y":                 "comment \"0123456789abcdef\"\ntext \"y\"\n",
		"<!--0123456789abcde--x-->y":                "comment \"0123456789abcde-\"\ntext \"y\"\n",
		"<!--0123456789abcde-->y":                   "comment \"0123456789abcde\"\ntext \"y\"\n",
		"<!--0123456789abcde--!":                    "comment \"0123456789abcde\"\n",
		"<!--0123456789abcde--!x":                   "comment \"0123456789abcde-\"\n",
		"<!--0123456789abcd--!--!--!":               "comment \"0123456789abcd--\"\n",
		"<?" + long + ">y":                          "comment \"?012345678901234\"\ntext \"y\"\n",
		"</#" + long + ">y":                         "comment \"#012345678901234\"\ntext \"y\"\n",
		"<!" + long:                                 "comment \"0123456789012345\"\n",
		"<!doctype " + long + ">y":                  "doctype\ntext \"y\"\n",
		"<!--" + long + "-- >--" + long:             "comment \"0123456789012345\"\n",
		"<!--" + long + "<!--" + long + "--->y-->z": "comment \"0123456789012345\"\ntext \"y-->z\"\n",
	} {
		if got := lines(lex(t, s, 16)); got != want {
			t.Errorf("%s: %s", s, got)
		}
	}
}

// At of every kind of token, in lines and with runes of several bytes.
func TestAt(t *testing.T) {
	s := "é\r\n<b\nx='\r'>\ra&lt;</b>&amp;<!--\n-->x</>\xff</3><!doctype\n><?\n><title>\n</title\n>"
	for _, window := range []int{16, 100} {
		got := lex(t, s, window)
		want := []api.Token{
			{Text: "é\n", At: api.Place{Byte: 0, Line: 1, Col: 1}},
			{Kind: api.TokenStart, Name: "b", Attrs: []api.Attr{{Name: "x", Value: "\n"}}, At: api.Place{Byte: 4, Line: 2, Col: 1}},
			{Text: "\na<", At: api.Place{Byte: 13, Line: 4, Col: 3}},
			{Kind: api.TokenEnd, Name: "b", At: api.Place{Byte: 19, Line: 5, Col: 6}},
			{Text: "&", At: api.Place{Byte: 23, Line: 5, Col: 10}},
			{Kind: api.TokenComment, Text: "\n", At: api.Place{Byte: 28, Line: 5, Col: 15}},
			{Text: "x", At: api.Place{Byte: 36, Line: 6, Col: 4}},
			{Text: "\uFFFD", At: api.Place{Byte: 40, Line: 6, Col: 8}},
			{Kind: api.TokenComment, Text: "3", At: api.Place{Byte: 41, Line: 6, Col: 9}},
			{Kind: api.TokenDoctype, At: api.Place{Byte: 45, Line: 6, Col: 13}},
			{Kind: api.TokenComment, Text: "?\n", At: api.Place{Byte: 56, Line: 7, Col: 2}},
			{Kind: api.TokenStart, Name: "title", At: api.Place{Byte: 60, Line: 8, Col: 2}},
			{Text: "\n", At: api.Place{Byte: 67, Line: 8, Col: 9}},
			{Kind: api.TokenEnd, Name: "title", At: api.Place{Byte: 68, Line: 9, Col: 1}},
		}
		agree(t, got, want, "places")
	}
}

// P11.1: places are handed on as they come, whatever they are.
func TestOddPlaces(t *testing.T) {
	var cells []api.Cell
	for i, r := range "x<b>&zz</b>&lt;<!--y--><title>&amp</title></>y" {
		cells = append(cells, api.Cell{Rune: r, At: api.Place{Byte: -i * 7, Line: i % 3, Col: 1000 - i}})
	}
	place := func(i int) api.Place { return cells[i].At }
	want := []api.Token{
		{Text: "x", At: place(0)}, {Kind: api.TokenStart, Name: "b", At: place(1)}, {Text: "&zz", At: place(4)}, {Kind: api.TokenEnd, Name: "b", At: place(7)}, {Text: "<", At: place(11)},
		{Kind: api.TokenComment, Text: "y", At: place(15)}, {Kind: api.TokenStart, Name: "title", At: place(23)}, {Text: "&", At: place(30)}, {Kind: api.TokenEnd, Name: "title", At: place(34)}, {Text: "y", At: place(45)},
	}
	l := made(t, 16)
	told := feed(t, l, cells...)
	left, _ := l.End()
	agree(t, append(told, left...), want, "odd places")
}
