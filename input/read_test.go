package input_test

import (
	"math"
	"slices"
	"strings"
	"testing"
	"unicode/utf8"

	"sieve/api"
	"sieve/input"
	"sieve/utf"
)

// piece is a rune of chapter 1, where its bytes begin, and where they end.
type piece struct {
	r        rune
	from, to int
}

// pieces: the runes of bytes.
func pieces(b []byte) []piece {
	var out []piece
	for n, r := range utf.Runes(b) {
		from, _ := utf.Place(b, n)
		to, _ := utf.Place(b, n+1)
		out = append(out, piece{r: r, from: from, to: to})
	}
	return out
}

// model: the cells by the chapter's words, and the place behind them.
func model(b []byte) ([]api.Cell, api.Place) {
	var joined []piece
	for _, p := range pieces(b) {
		if n := len(joined); p.r == '\n' && n > 0 && joined[n-1].r == '\r' && joined[n-1].to == p.from {
			joined[n-1] = piece{r: '\n', from: joined[n-1].from, to: p.to}
			continue
		}
		joined = append(joined, p)
	}
	var out []api.Cell
	for _, p := range joined {
		out = append(out, api.Cell{Rune: plain(p.r), At: behind(out, p.from)})
	}
	return out, behind(out, len(b))
}

// behind: the place of what stands behind these cells, at that byte.
func behind(l []api.Cell, at int) api.Place {
	line, col := 1, 1
	for _, c := range l {
		col++
		if c.Rune == '\n' {
			line, col = line+1, 1
		}
	}
	return api.Place{Byte: at, Line: line, Col: col}
}

// few: newlines, and bytes that make characters together, in part, or none.
var few = []byte{'a', '\r', '\n', 0x00, 0xE2, 0x82, 0xAC, 0xFF}

// some: calls f with all of up to five of these bytes, and with longer ones.
func some(f func([]byte)) {
	f(nil)
	f([]byte{})
	b := make([]byte, 0, 5)
	var fill func()
	fill = func() {
		if len(b) > 0 {
			f(b)
		}
		if len(b) == cap(b) {
			return
		}
		for _, c := range few {
			b = append(b, c)
			fill()
			b = b[:len(b)-1]
		}
	}
	fill()
	for _, s := range long {
		f([]byte(s))
	}
}

var long = []string{
	"a\r\nb\rc\n",
	"\r\r\n\n\r\r",
	"é\r\n€\r\U0001F600\n\u0085x",
	"\xf0\x9f\x98\r\n\xf0\x9f\r\xed\xa0\x80\n\xc0\xaf",
	"one\x00\ufffe\v\fa\tb\r\n\r\n\xef\xbb\xbfend\xf0\x9f\x98",
	"\r\xf0\x9f\x98\x80\r\xf0\x9f\x98\r\xf0\x9fz",
}

// cell: one, written short.
func cell(r rune, at, line, col int) api.Cell {
	return api.Cell{Rune: r, At: api.Place{Byte: at, Line: line, Col: col}}
}

// P3.2: the chapter's example, newlines of all kinds, and wrong bytes, written out.
func TestReadExamples(t *testing.T) {
	for _, c := range []struct {
		b    string
		want []api.Cell
	}{
		{"", nil},
		{"a\r\nb\rc\n", []api.Cell{cell('a', 0, 1, 1), cell('\n', 1, 1, 2), cell('b', 3, 2, 1), cell('\n', 4, 2, 2), cell('c', 5, 3, 1), cell('\n', 6, 3, 2)}},
		{"\r\n", []api.Cell{cell('\n', 0, 1, 1)}},
		{"\r", []api.Cell{cell('\n', 0, 1, 1)}},
		{"\n\r", []api.Cell{cell('\n', 0, 1, 1), cell('\n', 1, 2, 1)}},
		{"\r\r\n", []api.Cell{cell('\n', 0, 1, 1), cell('\n', 1, 2, 1)}},
		{"\r\n\n", []api.Cell{cell('\n', 0, 1, 1), cell('\n', 2, 2, 1)}},
		{"\r\n\r\n", []api.Cell{cell('\n', 0, 1, 1), cell('\n', 2, 2, 1)}},
		{"é€\U0001F600x", []api.Cell{cell('é', 0, 1, 1), cell('€', 2, 1, 2), cell(0x1F600, 5, 1, 3), cell('x', 9, 1, 4)}},
		{"\xe2\x82a\xff\x00", []api.Cell{cell(0xFFFD, 0, 1, 1), cell('a', 2, 1, 2), cell(0xFFFD, 3, 1, 3), cell(0xFFFD, 4, 1, 4)}},
		{"\xf0\x9f\x98\r\nx", []api.Cell{cell(0xFFFD, 0, 1, 1), cell('\n', 3, 1, 2), cell('x', 5, 2, 1)}},
		{"\r\xe2\x82\n", []api.Cell{cell('\n', 0, 1, 1), cell(0xFFFD, 1, 2, 1), cell('\n', 3, 2, 2)}},
		{"\r\x00\n", []api.Cell{cell('\n', 0, 1, 1), cell(0xFFFD, 1, 2, 1), cell('\n', 2, 2, 2)}},
		{"\uFEFFa\u0085b", []api.Cell{cell(0xFEFF, 0, 1, 1), cell('a', 3, 1, 2), cell(0xFFFD, 4, 1, 3), cell('b', 6, 1, 4)}},
		{"\v\f", []api.Cell{cell(0xFFFD, 0, 1, 1), cell('\f', 1, 1, 2)}},
	} {
		if got := input.Read([]byte(c.b)); !slices.Equal(got, c.want) {
			t.Errorf("Read(%q): %v, want %v", c.b, got, c.want)
		}
	}
}

// P3.2, P3.5: Read and Text of all bytes; every rune is one that Plain leaves.
func TestRead(t *testing.T) {
	some(func(b []byte) {
		got := input.Read(b)
		if want, _ := model(b); !slices.Equal(got, want) {
			t.Fatalf("Read(%x): %v, want %v", b, got, want)
		}
		var runes []rune
		for _, c := range got {
			if input.Plain(c.Rune) != c.Rune {
				t.Fatalf("Read(%x): %x is not plain", b, c.Rune)
			}
			runes = append(runes, c.Rune)
		}
		text := input.Text(b)
		if text != string(runes) || !utf8.ValidString(text) {
			t.Fatalf("Text(%x): %q", b, text)
		}
		if again := input.Text([]byte(text)); again != text {
			t.Fatalf("Text(%x) again: %q", b, again)
		}
	})
}

// P3.6: places rise, from the first one on.
func TestPlacesRise(t *testing.T) {
	some(func(b []byte) {
		l := input.Read(b)
		for n, c := range l {
			if n == 0 {
				if c.At != (api.Place{Byte: 0, Line: 1, Col: 1}) {
					t.Fatalf("%x: first at %v", b, c.At)
				}
				continue
			}
			was := l[n-1]
			line, col := was.At.Line, was.At.Col+1
			if was.Rune == '\n' {
				line, col = was.At.Line+1, 1
			}
			if c.At.Byte <= was.At.Byte || c.At.Line != line || c.At.Col != col {
				t.Fatalf("%x: %v behind %v", b, c, was)
			}
		}
	})
}

// P3.2: the text of runes.
func TestText(t *testing.T) {
	for _, c := range []struct{ b, want string }{
		{"", ""},
		{"a\r\nb\rc\n", "a\nb\nc\n"},
		{"\r\n\x00", "\n\uFFFD"},
		{"\n\r", "\n\n"},
		{"\r\r\n", "\n\n"},
		{"a\xff\xe2\x82b", "a\uFFFD\uFFFDb"},
		{"\xe2\x82\r\n", "\uFFFD\n"},
		{"&#13;\t\f", "&#13;\t\f"},
	} {
		if got := input.Text([]byte(c.b)); got != c.want {
			t.Errorf("Text(%q): %q, want %q", c.b, got, c.want)
		}
	}
}

// P3.3: the lines, with a last one that an LF ends, and with one that none ends.
func TestLines(t *testing.T) {
	for _, c := range []struct {
		b    string
		want []string
	}{
		{"", nil},
		{"a", []string{"a"}},
		{"a\n", []string{"a"}},
		{"a\nb", []string{"a", "b"}},
		{"a\r\nb\rc\n", []string{"a", "b", "c"}},
		{"\n", []string{""}},
		{"\r", []string{""}},
		{"\r\n", []string{""}},
		{"\n\r", []string{"", ""}},
		{"\r\r\n", []string{"", ""}},
		{"\n\na", []string{"", "", "a"}},
		{"a\n\n", []string{"a", ""}},
		{"é\x00\n\xe2\x82", []string{"é\uFFFD", "\uFFFD"}},
		{"a\fb\vc\u2028d\u0085e", []string{"a\fb\uFFFDc\u2028d\uFFFDe"}},
	} {
		if got := input.Lines([]byte(c.b)); !slices.Equal(got, c.want) {
			t.Errorf("Lines(%q): %q, want %q", c.b, got, c.want)
		}
	}
	some(func(b []byte) {
		want := strings.Split(input.Text(b), "\n")
		if want[len(want)-1] == "" {
			want = want[:len(want)-1]
		}
		if got := input.Lines(b); !slices.Equal(got, want) {
			t.Fatalf("Lines(%x): %q, want %q", b, got, want)
		}
	})
}

// P3.3: Where, written out: both bytes of CR LF, all of a long character, of a wrong piece, the end.
func TestWhereExamples(t *testing.T) {
	const s = "a\r\n\U0001F600b\xe2\x82\rz"
	want := []api.Place{
		{Byte: 0, Line: 1, Col: 1},
		{Byte: 1, Line: 1, Col: 2}, {Byte: 1, Line: 1, Col: 2},
		{Byte: 3, Line: 2, Col: 1}, {Byte: 3, Line: 2, Col: 1}, {Byte: 3, Line: 2, Col: 1}, {Byte: 3, Line: 2, Col: 1},
		{Byte: 7, Line: 2, Col: 2},
		{Byte: 8, Line: 2, Col: 3}, {Byte: 8, Line: 2, Col: 3},
		{Byte: 10, Line: 2, Col: 4},
		{Byte: 11, Line: 3, Col: 1},
		{Byte: 12, Line: 3, Col: 2},
	}
	for at, p := range want {
		if got, e := input.Where([]byte(s), at); got != p || e != api.OK {
			t.Errorf("Where(%q, %d): %v, %d, want %v", s, at, got, e, p)
		}
	}
	for _, c := range []struct {
		b    string
		want api.Place
	}{
		{"", api.Place{Byte: 0, Line: 1, Col: 1}},
		{"\r", api.Place{Byte: 1, Line: 2, Col: 1}},
		{"\r\n", api.Place{Byte: 2, Line: 2, Col: 1}},
		{"a\xe2\x82", api.Place{Byte: 3, Line: 1, Col: 3}},
	} {
		if got, e := input.Where([]byte(c.b), len(c.b)); got != c.want || e != api.OK {
			t.Errorf("Where(%q, %d): %v, %d, want %v", c.b, len(c.b), got, e, c.want)
		}
	}
}

// P3.3: Where of every byte, and of what is none.
func TestWhere(t *testing.T) {
	some(func(b []byte) {
		l, end := model(b)
		for at := range b {
			var want api.Place
			for _, c := range l {
				if c.At.Byte <= at {
					want = c.At
				}
			}
			if got, e := input.Where(b, at); got != want || e != api.OK {
				t.Fatalf("Where(%x, %d): %v, %d, want %v", b, at, got, e, want)
			}
		}
		if got, e := input.Where(b, len(b)); got != end || e != api.OK {
			t.Fatalf("Where(%x, %d): %v, %d, want %v", b, len(b), got, e, end)
		}
		for _, at := range []int{math.MinInt, -1, len(b) + 1, math.MaxInt} {
			if got, e := input.Where(b, at); got != (api.Place{}) || e != api.ErrArg {
				t.Fatalf("Where(%x, %d): %v, %d", b, at, got, e)
			}
		}
	})
}
