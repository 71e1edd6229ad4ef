package lexer_test

import (
	"strings"
	"testing"

	"sieve/api"
	"sieve/input"
)

// signs: what each state does something of its own with.
var signs = []string{"<", "/", ">", "!", "?", "-", "a", " ", "&", "\"", "="}

// marks: the same, put together.
var marks = []string{
	"<b>", "</b>", "<b ", "</B x>", "<br/>", "<a x='", "'>", "<!--", "-->", "--!>", "<!", "<!doctype", "<!DocType x>", "<!doc", "<![CDATA[", "<?", "</", "</>", "</3>", "<", ">", "-", "--",
	"&", "&amp;", "&amp", "&no", "&notit;", "&notin;", "&#", "&#x", "&#65", "&#x41;", "&#13;", "&#1;", ";", "x", "é", "\x00", "\r\n", "\xff", "0123456789",
	"<title>", "</title>", "</TITLE ", "</title", "<textarea/>", "</textarea>", "<style>", "</style>", "<script>", "</script>", "<script", "<plaintext>", "</plaintext>",
}

// P11.1 to P11.3: all short texts of signs, in data and behind a text and a reference.
func TestMomentsSigns(t *testing.T) {
	texts(4, signs, func(s string) { moments(t, s, 16) })
	texts(2, signs, func(s string) {
		moments(t, "0123456789abcd"+s, 16)
		moments(t, "0123456789abc&am"+s, 16)
		moments(t, "x&not<"+s, 16)
		moments(t, "<!"+s, 16)
		moments(t, "<!--"+s, 16)
		moments(t, "<a "+s, 16)
		moments(t, "<title>"+s, 16)
		moments(t, "<title>&no"+s, 16)
	})
}

// P11.1 to P11.3: marks in every order, with a small window and with one that nothing fills.
func TestMomentsMarks(t *testing.T) {
	texts(2, marks, func(s string) {
		moments(t, s, 16)
		moments(t, s, 1000)
	})
	few := []string{"<b>", "<b ", "<!--", "-->", "</", ">", "&amp", "&no", ";", "x", "0123456789", "<title>", "</title", "<script>", "</script>"}
	texts(3, few, func(s string) { moments(t, s, 17) })
}

// P11.1 to P11.3: marks in the content of every element in which no tags are read.
func TestMomentsContents(t *testing.T) {
	for _, name := range allRaw {
		parts := []string{"</" + name + ">", "</" + strings.ToUpper(name) + " ", "</" + name, "</", "<", "&lt;", "&lt", "&#6", "&zz", "<!--", "-->", "<script>", "</script>", "x", "0123456789", ">", "<b>"}
		texts(2, parts, func(s string) {
			moments(t, "<"+name+">"+s, 16)
			moments(t, "<"+name+" long='0123456789'>"+s, 20)
		})
	}
}

// P11.3: any pieces, empty ones too: all tokens, one behind the other, are Lex's.
func TestPieces(t *testing.T) {
	all := strings.Join(marks, "")
	all = strings.ReplaceAll(all, "<plaintext>", "<b title='a&lt;b&#0'>") + "<!--x--><script>y<!--<script></script>--></script>z<title>&amp;&am</title>&lt;p" + strings.Join(marks, "x")
	cells := input.Read([]byte(all))
	for _, window := range []int{16, 17, 23, 64, 1000, api.MaxWindow} {
		want := lex(t, all, window)
		m := model(cells, window)
		agree(t, want, append(m.told, m.left...), "the model")
		for size := 1; size < 40; size++ {
			l := made(t, window)
			var told []api.Token
			for at := 0; at < len(cells); at += size {
				told = append(told, feed(t, l)...)
				told = append(told, feed(t, l, cells[at:min(at+size, len(cells))]...)...)
				agree(t, feed(t, l), nil, "no cells")
			}
			left, e := l.End()
			if e != api.OK {
				t.Fatal(e)
			}
			agree(t, append(told, left...), want, "in pieces")
			stands(t, l, m, "in pieces")
		}
	}
}

// common: how many tokens two lists begin with alike.
func common(a, b []api.Token) int {
	n := 0
	for n < len(a) && n < len(b) && same(a[n:n+1], b[n:n+1]) {
		n++
	}
	return n
}

// P11.1: what Feed tells is just what no later cell can change: what all texts have in common that go on so. (A comment or a doctype is told with its end.)
func TestSure(t *testing.T) {
	var next []string
	texts(2, []string{"<", "/", ">", "!", "?", "-", "b", " ", "x", "</title>", "-->", "'>", "\">", "0123456789abcdef", "octype>", "/title>", "title>", "/script>", "script>"}, func(s string) { next = append(next, s) })
	heads := []string{"", "x", "0123456789abcde", "<title>", "<title>0123456789abcde", "<title>x</title", "<script>", "<plaintext>", "<b x='", "<!--x"}
	for _, head := range heads {
		texts(3, []string{"<", "/", ">", "!", "-", "b", " "}, func(s string) {
			told := feedText(t, made(t, 16), head+s)
			all := lex(t, head+s, 16)
			for _, tail := range next {
				all = all[:common(all, lex(t, head+s+tail, 16))]
			}
			if n := len(told); len(all) == n+1 && (all[n].Kind == api.TokenComment || all[n].Kind == api.TokenDoctype) {
				all = all[:n]
			}
			agree(t, told, all, head+s)
		})
	}
}
