package lexer_test

import (
	"math"
	"strings"
	"testing"
	"unicode/utf8"

	"sieve/api"
	"sieve/input"
	"sieve/lexer"
	"sieve/token"
)

// is: Lex of a text, with a window that nothing fills, as lines.
func is(t *testing.T, s, want string) {
	t.Helper()
	if got := lines(lex(t, s, 1000)); got != want {
		t.Errorf("%q:\n%swant:\n%s", s, got, want)
	}
}

// P11.2: the chapter's examples.
func TestExamples(t *testing.T) {
	is(t, "a<b c=d>e</b>", "text \"a\"\nstart \"b\" \"c\"=\"d\"\ntext \"e\"\nend \"b\"\n")
	is(t, "<a", "")
	is(t, "a < b", "text \"a < b\"\n")
	is(t, "</>x</3>y", "text \"x\"\ncomment \"3\"\ntext \"y\"\n")
	is(t, "<title><b>&amp;</title>x", "start \"title\"\ntext \"<b>&\"\nend \"title\"\ntext \"x\"\n")
	is(t, "<script><!--<script></script>--></script>y", "start \"script\"\ntext \"<!--<script></script>-->\"\nend \"script\"\ntext \"y\"\n")
	is(t, "&#13;&#0;&lt", "text \"\\n\uFFFD<\"\n")
	l := made(t, 16)
	told := feedText(t, l, "<abbr title=12345678>x")
	left, _ := l.End()
	if got := lines(append(told, left...)); got != "text \"x\"\n" {
		t.Errorf("abbr: %s", got)
	}
	if lost := l.Lost(); len(lost) != 1 || lost[0] != (api.Finding{At: api.Place{Byte: 0, Line: 1, Col: 1}, Why: api.WhyWindow, Name: "abbr"}) {
		t.Errorf("Lost: %v", lost)
	}
}

// P11.1, P11.2: which windows may be.
func TestWindows(t *testing.T) {
	for _, window := range []int{api.MinWindow, 17, 1000, api.MaxWindow - 1, api.MaxWindow} {
		made(t, window)
		if got := lines(lex(t, "x", window)); got != "text \"x\"\n" {
			t.Errorf("%d: %s", window, got)
		}
	}
	for _, window := range []int{api.MinWindow - 1, 1, 0, -1, -16, math.MinInt, api.MaxWindow + 1, math.MaxInt, 1 << 32} {
		if l, e := lexer.New(window); l != nil || e != api.ErrArg {
			t.Errorf("New(%d): %v, %d", window, l, e)
		}
		for _, b := range [][]byte{nil, []byte("x<b>")} {
			if l, e := lexer.Lex(b, window); len(l) != 0 || e != api.ErrArg {
				t.Errorf("Lex(%d): %v, %d", window, l, e)
			}
			for one := range lexer.Tokens(b, window) {
				t.Errorf("Tokens(%d): %v", window, one)
			}
		}
	}
}

// A < and a </ with a letter, with >, with any other ASCII rune and some beyond, with nothing behind.
func TestLess(t *testing.T) {
	is(t, "<", "text \"<\"\n")
	is(t, "x<", "text \"x<\"\n")
	is(t, "</", "text \"</\"\n")
	is(t, "x</", "text \"x</\"\n")
	is(t, "</>", "")
	is(t, "x</>", "text \"x\"\n")
	is(t, "x<>y", "text \"x<>y\"\n")
	is(t, "<<b>", "text \"<\"\nstart \"b\"\n")
	is(t, "<<", "text \"<<\"\n")
	is(t, "<</b>", "text \"<\"\nend \"b\"\n")
	is(t, "<</", "text \"<</\"\n")
	is(t, "</</b>", "comment \"</b\"\n")
	is(t, "<&lt;", "text \"<<\"\n")
	is(t, "</&lt;>x", "comment \"&lt;\"\ntext \"x\"\n")
	is(t, "</ b>", "comment \" b\"\n")
	is(t, "</!-->", "comment \"!--\"\n")
	is(t, "<?", "comment \"?\"\n")
	is(t, "x<?>y", "text \"x\"\ncomment \"?\"\ntext \"y\"\n")
	is(t, "<?xml a='>'?>", "comment \"?xml a='\"\ntext \"'?>\"\n")
	for r := rune(1); r < 0x180; r++ {
		s, low := string(input.Plain(r)), strings.ToLower(string(r))
		switch {
		case r >= 'a' && r <= 'z' || r >= 'A' && r <= 'Z':
			is(t, "x<"+string(r)+">y", "text \"x\"\nstart \""+low+"\"\ntext \"y\"\n")
			is(t, "x</"+string(r)+">y", "text \"x\"\nend \""+low+"\"\ntext \"y\"\n")
		case strings.ContainsRune("/?!<>&\"\\\t\n\r", r): // others stand above and below, or are quoted
		default:
			is(t, "x<"+string(r)+">y", "text \"x<"+s+">y\"\n")
			is(t, "x</"+string(r)+">y", "text \"x\"\ncomment \""+s+"\"\ntext \"y\"\n")
		}
	}
}

// <! with each of what layer 9's Open tells, at every place where the end of the input may cut it.
func TestBang(t *testing.T) {
	is(t, "x<!", "text \"x\"\ncomment \"\"\n")
	is(t, "<!>x", "comment \"\"\ntext \"x\"\n")
	is(t, "<!-", "comment \"-\"\n")
	is(t, "<!->x", "comment \"-\"\ntext \"x\"\n")
	is(t, "<!-x-->y", "comment \"-x--\"\ntext \"y\"\n")
	is(t, "<!--", "comment \"\"\n")
	is(t, "<!-->x", "comment \"\"\ntext \"x\"\n")
	is(t, "<!--->x", "comment \"\"\ntext \"x\"\n")
	is(t, "<!--a>b-->c", "comment \"a>b\"\ntext \"c\"\n")
	is(t, "<!--a--!>c", "comment \"a\"\ntext \"c\"\n")
	is(t, "<!--a--", "comment \"a\"\n")
	is(t, "<!--a--!", "comment \"a\"\n")
	is(t, "<!--&amp;<b>", "comment \"&amp;<b>\"\n")
	is(t, "<![CDATA[x]]>y", "comment \"[CDATA[x]]\"\ntext \"y\"\n")
	is(t, "<!b>y", "comment \"b\"\ntext \"y\"\n")
	is(t, "<!</b>", "comment \"</b\"\n")
	is(t, "<!é>", "comment \"é\"\n")
	is(t, "<!doctypé>", "comment \"doctypé\"\n")
	is(t, "<! doctype>", "comment \" doctype\"\n")
	is(t, "x<!doctype html>y", "text \"x\"\ndoctype\ntext \"y\"\n")
	is(t, "<!doctype>y", "doctype\ntext \"y\"\n")
	is(t, "<!DOCTYPE a '>'>y", "doctype\ntext \"'>y\"\n")
	const word = "<!DocType html"
	for n := 3; n <= len(word); n++ {
		want := "comment \"" + word[2:n] + "\"\n"
		if n >= len("<!doctype") {
			want = "doctype\n"
		}
		is(t, word[:n], want)
		is(t, word[:n]+">x", want+"text \"x\"\n")
		is(t, word[:n]+"<b>x", strings.Replace(want, "\"\n", "<b\"\n", 1)+"text \"x\"\n")
	}
}

// References in data, cut by the end of the input, and by what stands behind them, at every place.
func TestReferences(t *testing.T) {
	for s, want := range map[string]string{
		"&": "&", "&a": "&a", "&am": "&am", "&amp": "&", "&amp;": "&", "&ampx": "&x", "&amp;amp;": "&amp;", "&&amp;&": "&&&", "&l": "&l", "&lt": "<", "&lt;": "<", "&lt;b>": "<b>", "&lt/b>": "</b>",
		"&n": "&n", "&no": "&no", "&not": "¬", "&noti": "¬i", "&notin": "¬in", "&notin;": "∉", "&notit;": "¬it;", "&not;in": "¬in",
		"&z": "&z", "&zz": "&zz", "&;": "&;", "& amp;": "& amp;", "&unknown;": "&unknown;", "&copy=1": "©=1", "&NotEqualTilde;": "\u2242\u0338", "&NotEqualTilde": "&NotEqualTilde", "&fjlig;": "fj", "&frac1": "&frac1", "&frac12": "½", "&there4;": "∴", "&there4": "&there4",
		"&#": "&#", "&#;": "&#;", "&#x": "&#x", "&#x;": "&#x;", "&#X": "&#X", "&#xg": "&#xg", "&#a": "&#a", "&#6": "\uFFFD", "&#65": "A", "&#65;": "A", "&#65;;": "A;", "&#x41": "A", "&#X4a;": "J", "&#x41g": "Ag", "&#65a": "Aa", "&#38;lt;": "&lt;", "&#x26;amp;": "&amp;",
		"&#x80;": "€", "&#128": "€", "&#x110000;": "\uFFFD", "&#xD800;": "\uFFFD", "&#99999999999999999999": "\uFFFD", "&#1114111;": "\uFFFD", "&#1114109;": "\U0010FFFD",
	} {
		is(t, s, "text "+quoted(want)+"\n")
		is(t, "x"+s, "text "+quoted("x"+want)+"\n")
		is(t, s+"<b>", "text "+quoted(want)+"\nstart \"b\"\n")
		is(t, s+"</", "text "+quoted(want+"</")+"\n")
		is(t, s+"<!---->", "text "+quoted(want)+"\ncomment \"\"\n")
		is(t, s+" ", "text "+quoted(want+" ")+"\n")
		is(t, s+"&", "text "+quoted(want+"&")+"\n")
		for _, name := range rcdata {
			is(t, "<"+name+">"+s, "start \""+name+"\"\ntext "+quoted(want)+"\n")
			is(t, "<"+name+">"+s+"</"+name+">", "start \""+name+"\"\ntext "+quoted(want)+"\nend \""+name+"\"\n")
			is(t, "<"+name+">"+s+"</"+name, "start \""+name+"\"\ntext "+quoted(want+"</"+name)+"\n")
			is(t, "<"+name+">"+s+"<", "start \""+name+"\"\ntext "+quoted(want+"<")+"\n")
		}
		for _, name := range append([]string{"script"}, rawText...) {
			is(t, "<"+name+">"+s+"</"+name+">"+s, "start \""+name+"\"\ntext "+quoted(s)+"\nend \""+name+"\"\ntext "+quoted(want)+"\n")
		}
		is(t, "<plaintext>"+s, "start \"plaintext\"\ntext "+quoted(s)+"\n")
	}
}

// quoted: a text as layer 7 quotes it.
func quoted(s string) string {
	return "\"" + strings.NewReplacer("\\", "\\\\", "\"", "\\\"", "\n", "\\n", "\t", "\\t").Replace(s) + "\""
}

// References in attributes' values say less, and what they say is plain.
func TestValues(t *testing.T) {
	for s, want := range map[string]string{
		"&amp;": "&", "&amp": "&", "&ampx": "&ampx", "&notit;": "&notit;", "&notin;": "∉", "&copy=1": "&copy=1", "&copy": "©", "&": "&", "&#": "&#", "&#65": "A", "&#x41;b": "Ab", "&lt;b&gt;": "<b>",
		"&#0;": "\uFFFD", "&#13;": "\n", "&#13;&#10;": "\n\n", "&#1;": "\uFFFD", "&#x0b;": "\uFFFD", "&#127;": "\uFFFD", "&#x81;": "\uFFFD", "&#xFDD0;": "\uFFFD", "&#xFFFF;": "\uFFFD", "&#x1FFFE;": "\uFFFD", "&#9;&#12;": "\t\f", "&#x80;": "€",
	} {
		for _, quote := range []string{"\"", "'"} {
			is(t, "<a x="+quote+s+quote+">", "start \"a\" \"x\"="+quoted(want)+"\n")
		}
		is(t, "<a x="+s+">", "start \"a\" \"x\"="+quoted(want)+"\n")
		is(t, "<a y x="+s+" z='"+s+"'>", "start \"a\" \"y\"=\"\" \"x\"="+quoted(want)+" \"z\"="+quoted(want)+"\n")
		is(t, "<a x="+s, "")
		is(t, "</a x="+s+">", "end \"a\"\n")
	}
}

// P11.4: runes that layer 3's Plain changes, as they stand and as references, in every kind of text.
func TestPlain(t *testing.T) {
	for r := range rune(0x110000) {
		if r > 0x300 && r < 0xFD00 && r%0x101 != 0 || r > 0x10100 && r&0xFFFF > 0x10 && r&0xFFFF < 0xFFF0 || r >= 0xD800 && r < 0xE000 || strings.ContainsRune("<&", r) {
			continue
		}
		plain := input.Plain(r)
		l := made(t, 100)
		told := feed(t, l, api.Cell{Rune: r})
		left, _ := l.Stop()
		if got := append(told, left...); len(got) != 1 || got[0].Text != string(plain) {
			t.Fatalf("%x: %v", r, got)
		}
	}
	for _, r := range []rune{0, 1, 8, 0x0B, 0x0D, 0x0E, 0x1F, 0x7F, 0x80, 0x81, 0x9F, 0xFDD0, 0xFDEF, 0xFFFE, 0xFFFF, 0x10FFFF, 0xD800, 0xDFFF, 0x110000, -1, math.MaxInt32, math.MinInt32} {
		plain := "\uFFFD"
		if r == '\r' {
			plain = "\n"
		}
		for _, head := range []string{"", "x", "&am", "&#6", "<", "<title>", "<title>&no", "<title></title", "<script><!--", "<style></", "<plaintext>", "<a x='", "<a x=", "<a", "<a ", "<!--", "</", "<?", "<!"} {
			l := made(t, 100)
			told := append(feedText(t, l, head), feed(t, l, api.Cell{Rune: r})...)
			told = append(told, feedText(t, l, "y'-->")...)
			left, _ := l.End()
			if got, want := append(told, left...), lex(t, head+plain+"y'-->", 100); lines(got) != lines(want) {
				t.Errorf("%s and %x: %s; want %s", head, r, lines(got), lines(want))
			}
		}
	}
	is(t, "a\x00\x01\x7f\u0081\uFFFE\r\n\rb\xff", "text \"a\uFFFD\uFFFD\uFFFD\uFFFD\uFFFD\\n\\nb\uFFFD\"\n")
	is(t, "<title>\x00&#0;&#1;&#13;&#10;</title>", "start \"title\"\ntext \"\uFFFD\uFFFD\uFFFD\\n\\n\"\nend \"title\"\n")
	is(t, "<style>\x00&#0;\r\n</style>", "start \"style\"\ntext \"\uFFFD&#0;\\n\"\nend \"style\"\n")
	is(t, "&#x81;&#x8d;&#xFDD0;&#xFFFE;&#x10FFFF;&#11;&#12;&#9;", "text \"\uFFFD\uFFFD\uFFFD\uFFFD\uFFFD\uFFFD\f\\t\"\n")
	is(t, "<a\x00 b\x01='\x02\r\n'>", "start \"a\uFFFD\" \"b\uFFFD\"=\"\uFFFD\\n\"\n")
	is(t, "<!--\x00\r\n-->", "comment \"\uFFFD\\n\"\n")
}

// P11.1: cells of a CR and an LF are two: newlines are joined by layer 3 alone.
func TestCells(t *testing.T) {
	l := made(t, 16)
	feed(t, l, api.Cell{Rune: '\r'}, api.Cell{Rune: '\n'})
	if left, _ := l.End(); len(left) != 1 || left[0].Text != "\n\n" {
		t.Errorf("%v", left)
	}
}

// Tags by their names and attributes, as layer 8 reads them.
func TestTags(t *testing.T) {
	is(t, "<B Id=1 id=2 /><BR/></B /x=1>", "start \"b\" \"id\"=\"1\" /\nstart \"br\" /\nend \"b\"\n")
	is(t, "<a x='>'>y", "start \"a\" \"x\"=\">\"\ntext \"y\"\n")
	is(t, "<a x=\"<b>&quot;\">y", "start \"a\" \"x\"=\"<b>\\\"\"\ntext \"y\"\n")
	is(t, "<a<b>y", "start \"a<b\"\ntext \"y\"\n")
	is(t, "<a =x=>y", "start \"a\" \"=x\"=\"\"\ntext \"y\"\n")
	for _, s := range []string{"<a", "<a ", "<a x", "<a x=", "<a x='", "<a x='>", "<a x=1", "<a /", "</a", "</a ", "</a x='>", "<title", "<script "} {
		is(t, s, "")
		is(t, "x"+s, "text \"x\"\n")
		is(t, "<b>"+s, "start \"b\"\n")
	}
}

// Start tags of every name whose content is no data, Self or not, and the end tags that end them.
func TestContents(t *testing.T) {
	for _, name := range allRaw {
		begin, end, upper := "start \""+name+"\"", "end \""+name+"\"\n", strings.ToUpper(name)
		for _, self := range []string{"", "/", " x=1"} {
			head := begin
			switch self {
			case "/":
				head += " /"
			case " x=1":
				head += " \"x\"=\"1\""
			}
			tag := "<" + name + self + ">"
			is(t, tag, head+"\n")
			is(t, tag+"<b>", head+"\ntext \"<b>\"\n")
			is(t, "<"+upper+self+"><!-- x", head+"\ntext \"<!-- x\"\n")
			if name == "plaintext" {
				is(t, tag+"</plaintext>&amp;<", head+"\ntext \"</plaintext>&amp;<\"\n")
				continue
			}
			is(t, tag+"</"+name+">y", head+"\n"+end+"text \"y\"\n")
			is(t, tag+"x</b></"+upper+" a='>'>y<b>", head+"\ntext \"x</b>\"\n"+end+"text \"y\"\nstart \"b\"\n")
			is(t, tag+"</"+name+"/>", head+"\n"+end)
			is(t, tag+"</"+name+"\n>", head+"\n"+end)
			is(t, tag+"x</"+name+" a='", head+"\ntext \"x\"\n")
			is(t, tag+"</"+name+"x>", head+"\ntext \"</"+name+"x>\"\n")
			is(t, tag+"</"+name, head+"\ntext \"</"+name+"\"\n")
			is(t, tag+"</</"+name+">", head+"\ntext \"</\"\n"+end)
			is(t, tag+"</"+name+"</"+name+">", head+"\ntext \"</"+name+"\"\n"+end)
			is(t, tag+"</", head+"\ntext \"</\"\n")
			is(t, tag+"x<", head+"\ntext \"x<\"\n")
		}
		is(t, "</"+name+"><b>", end+"start \"b\"\n") // an end tag begins no content
		is(t, "<"+name+"x><b>", "start \""+name+"x\"\nstart \"b\"\n")
	}
	is(t, "<title><title></title></title>", "start \"title\"\ntext \"<title>\"\nend \"title\"\nend \"title\"\n")
	is(t, "<title></textarea></title>", "start \"title\"\ntext \"</textarea>\"\nend \"title\"\n")
	is(t, "<script><!--</script>x", "start \"script\"\ntext \"<!--\"\nend \"script\"\ntext \"x\"\n")
	is(t, "<textarea>\nx", "start \"textarea\"\ntext \"\\nx\"\n")
}

// P11.2: any bytes, none at all.
func TestBytes(t *testing.T) {
	for _, b := range [][]byte{nil, {}} {
		if l, e := lexer.Lex(b, 16); len(l) != 0 || e != api.OK {
			t.Errorf("%v, %d", l, e)
		}
		for one := range lexer.Tokens(b, 16) {
			t.Error(one)
		}
	}
	is(t, "\xef\xbb\xbfx", "text \"\uFEFFx\"\n")
	is(t, "a\xff\xe2\x82b", "text \"a\uFFFD\uFFFDb\"\n")
	is(t, "<a\xff>", "start \"a\uFFFD\"\n")
	is(t, "<\xff>", "text \"<\uFFFD>\"\n")
	for x := range 256 {
		for _, head := range []string{"", "<", "</", "<!", "<!-", "<a", "<a x=", "&", "&#", "&a", "<title>", "<title></title"} {
			s := head + string([]byte{byte(x)}) + ">"
			m := model(input.Read([]byte(s)), 16)
			agree(t, lex(t, s, 16), append(m.told, m.left...), s)
		}
	}
}

// P11.4: all tokens may be, texts and values are plain, no text or comment is longer than the window.
func TestMayBe(t *testing.T) {
	odd := append([]string{"&#1;", "&#xFFFE", "<!--\x00\x01-->", "<a\x00 b\x7f='&#2;\x03'>", "<title>&#x0b;", "0123456789abcdef"}, marks...)
	texts(2, odd, func(s string) {
		for _, window := range []int{16, 1000} {
			for _, one := range lex(t, s, window) {
				if e := token.Check(one); e != api.OK {
					t.Fatalf("%q: %v: %d", s, one, e)
				}
				if input.Clean(one.Text) != one.Text || utf8.RuneCountInString(one.Text) > window {
					t.Fatalf("%q: %v", s, one)
				}
				for _, a := range one.Attrs {
					if input.Clean(a.Value) != a.Value {
						t.Fatalf("%q: %v", s, one)
					}
				}
			}
		}
	})
}

// P11.5: without < and & the texts are those of layer 3.
func TestOnlyText(t *testing.T) {
	parts := []string{"a", "\r", "\n", "\x00", "\xff", "\xe2\x82", "é", "\u0081", ">", "-->", "]]>", "\"", ";", "#", "0123456789abcdef", "\U0001F600", "\uFFFE"}
	texts(3, parts, func(s string) {
		got := ""
		for _, one := range lex(t, s, 16) {
			got += one.Text
			if one.Kind != api.TokenText {
				t.Fatalf("%q: %v", s, one)
			}
		}
		if want := input.Text([]byte(s)); got != want {
			t.Fatalf("%q: %q; want %q", s, got, want)
		}
	})
}

// P11.6: with a window of the input's length no tag is lost, and texts are neighbours where something stands between them alone.
func TestNothingLost(t *testing.T) {
	fill := "0123456789abcdef"
	texts(2, marks, func(s string) {
		s = fill + s
		l := made(t, len(s))
		told := feedText(t, l, s)
		left, _ := l.End()
		if lost := l.Lost(); len(lost) > 0 {
			t.Fatalf("%q: %v", s, lost)
		}
		told = append(told, left...)
		for i := 1; i < len(told); i++ {
			if told[i].Kind == api.TokenText && told[i-1].Kind == api.TokenText && !strings.Contains(s, "</>") {
				t.Fatalf("%q: %s", s, lines(told))
			}
		}
	})
}
