package token_test

import (
	"math/rand"
	"strings"
	"testing"

	"sieve/api"
	"sieve/token"
)

// hold: is what Parse answers what the chapter asks?
func hold(t *testing.T, s string) {
	t.Helper()
	want, at, e := parsedAll(s)
	got, gotAt, gotE := token.Parse(s)
	if !sameAll(got, want) || gotAt != at || gotE != e {
		t.Errorf("Parse(%.200q): %#v, %d, %d; not %#v, %d, %d", s, got, gotAt, gotE, want, at, e)
	}
}

// P7.3: texts by hand, with what is wrong.
func TestParseByHand(t *testing.T) {
	for _, c := range []struct {
		s  string
		n  int // tokens
		at int // the wrong line
	}{
		{`end "p" x`, 0, 1}, {"", 0, 0}, {"\n", 0, 1}, {"\n\n", 0, 1}, {"doctype", 1, 0}, {"doctype\n", 1, 0}, {"doctype\n\n", 0, 2}, {"\ndoctype", 0, 1}, {"doctype\n\ndoctype\n", 0, 2},
		{"doctype\ndoctype", 2, 0}, {"doctype\n" + `text "x"` + "\nend", 0, 3}, {"doctype\r\n", 0, 1}, {"doctype ", 0, 1}, {" doctype", 0, 1}, {"Doctype", 0, 1}, {"doctyp", 0, 1}, {"doctypes", 0, 1}, {`doctype "x"`, 0, 1}, {"doctype /", 0, 1}, {`doctype ""`, 0, 1},
		{`text "x"`, 1, 0}, {`text ""`, 0, 1}, {`text`, 0, 1}, {`text `, 0, 1}, {`text x`, 0, 1}, {`text "x`, 0, 1}, {`text x"`, 0, 1}, {`text"x"`, 0, 1}, {`text  "x"`, 0, 1}, {"text\t\"x\"", 0, 1}, {`text "x" `, 0, 1}, {`text "x""`, 0, 1}, {`text "x" "y"`, 0, 1}, {`text "x" /`, 0, 1}, {`text 'x'`, 0, 1},
		{`text "\n\t\"\\"`, 1, 0}, {`text "\r"`, 0, 1}, {`text "\x"`, 0, 1}, {`text "\`, 0, 1}, {`text "\"`, 0, 1}, {`text "\\"`, 1, 0}, {`text "\\\"`, 0, 1}, {`text "\0"`, 0, 1}, {`text "\N"`, 0, 1}, {`text "\u0041"`, 0, 1}, {`text "\'"`, 0, 1}, {`text "\ "`, 0, 1}, {"text \"\t\"", 0, 1}, {"text \"a\nb\"", 0, 1}, {"text \"\\\n\"", 0, 1}, {"text \"\r\x00\x7f\"", 1, 0}, {"text \"\xff\"", 0, 1}, {"text \"\xe2\x82\"", 0, 1}, {"text \"\ufffd\"", 1, 0},
		{`comment ""`, 1, 0}, {`comment`, 0, 1}, {`comment "-"`, 1, 0}, {`comment "" /`, 0, 1}, {"comment \"\xff\"", 0, 1},
		{`end "p"`, 1, 0}, {`end "P"`, 0, 1}, {`end ""`, 0, 1}, {`end`, 0, 1}, {`end p`, 0, 1}, {`end "p" /`, 0, 1}, {`end "p" "a"="b"`, 0, 1}, {`end "p\n"`, 0, 1}, {`end "p\\"`, 1, 0}, {`end "a/"`, 0, 1}, {"end \"p\xff\"", 0, 1},
		{`start "a"`, 1, 0}, {`start "a" /`, 1, 0}, {`start "a" "b"="c" /`, 1, 0}, {`start "a" "b"="c" "d"="e"`, 1, 0}, {`start "a" "="="="`, 1, 0}, {`start`, 0, 1}, {`start "A"`, 0, 1}, {`start "a" `, 0, 1}, {`start "a"/`, 0, 1}, {`start "a"  /`, 0, 1}, {`start "a" / `, 0, 1}, {`start "a" //`, 0, 1}, {`start "a" / /`, 0, 1}, {`start "a" / "b"="c"`, 0, 1},
		{`start "a" "b"`, 0, 1}, {`start "a" "b"=`, 0, 1}, {`start "a" "b"=c`, 0, 1}, {`start "a" b="c"`, 0, 1}, {`start "a" "b" = "c"`, 0, 1}, {`start "a" "b"= "c"`, 0, 1}, {`start "a" "b"=="c"`, 0, 1}, {`start "a" "b"="c""d"="e"`, 0, 1}, {`start "a" "b"="c"  "d"="e"`, 0, 1}, {`start "a" "b"="c" "b"="e"`, 0, 1}, {`start "a" ""="c"`, 0, 1}, {`start "a" "b=c"=""`, 0, 1}, {`start "a" "B"=""`, 0, 1}, {`start "a" "b"="c"/`, 0, 1}, {`start "b"="c" "a"`, 0, 1}, {`start / "a"`, 0, 1}, {`start "a" "b\t"=""`, 0, 1}, {"start \"a\" \"b\"=\"\xff\"", 0, 1}, {"start \"a\" \"b\xff\"=\"\"", 0, 1},
		{`start"a"`, 0, 1}, {`"a"`, 0, 1}, {` `, 0, 1}, {`/`, 0, 1}, {"\ufeffdoctype", 0, 1}, {`starts "a"`, 0, 1}, {`0`, 0, 1}, {`element "a"`, 0, 1},
		{"doctype\nend \"p\"\nend \"P\"\nend \"Q\"", 0, 3}, {strings.Repeat("doctype\n", 999) + "x", 0, 1000},
	} {
		l, at, e := token.Parse(c.s)
		if len(l) != c.n || at != c.at || (e == api.OK) != (c.at == 0) || e != api.OK && e != api.ErrTokenForm {
			t.Errorf("Parse(%q): %#v, %d, %d", c.s, l, at, e)
		}
		hold(t, c.s)
	}
}

// P7.3: the tokens of a text, field by field.
func TestParseTokens(t *testing.T) {
	s := "doctype\nstart \"a\" \"b\"=\"c\\n\\t\\\"\\\\\" \"=\"=\"\" /\ntext \"é\\\\n\"\ncomment \"\"\nend \"a\\\"\"\nstart \"b\""
	want := []api.Token{doctype(), self("a", attr("b", "c\n\t\"\\"), attr("=", "")), text(`é\n`), comment(""), end(`a"`), start("b")}
	for _, s := range []string{s, s + "\n"} {
		if got, at, e := token.Parse(s); !sameAll(got, want) || at != 0 || e != api.OK {
			t.Errorf("Parse: %#v, %d, %d", got, at, e)
		}
	}
}

// P7.4: Parse undoes List, with the zero place; with and without the last line's end.
func TestThereAndBack(t *testing.T) {
	all := possible()
	for n := range len(all) + 1 {
		l := append([]api.Token(nil), all[:n]...)
		if n%2 == 1 {
			l = l[n-1:] // each one alone, too
		}
		for i := range l {
			l[i].At = place
		}
		s, e := token.List(l...)
		if e != api.OK {
			t.Fatalf("List: %d", e)
		}
		for i := range l {
			l[i].At = api.Place{}
		}
		if got, at, e := token.Parse(s); !sameAll(got, l) || at != 0 || e != api.OK {
			t.Errorf("Parse(%q): %#v, %d, %d", s, got, at, e)
		}
		if got, at, e := token.Parse(strings.TrimSuffix(s, "\n")); !sameAll(got, l) || at != 0 || e != api.OK {
			t.Errorf("Parse without the end: %#v, %d, %d", got, at, e)
		}
	}
}

// P7.3: lines with one byte less, one more, another one; held against the chapter's words, and against Print.
func TestParseNearly(t *testing.T) {
	lines := []string{`doctype`, `text "x\n"`, `comment "\\"`, `end "p"`, `start "a"`, `start "a" /`, `start "a" "b"="c"`, `start "a" "=b"="\"" "é"="" /`, "text \"a\"\nend \"b\"\ndoctype\n"}
	nearly := func(s string) {
		hold(t, s)
		l, _, e := token.Parse(s)
		if e != api.OK {
			return
		}
		if again, e := token.List(l...); e != api.OK || strings.TrimSuffix(again, "\n") != strings.TrimSuffix(s, "\n") {
			t.Errorf("Parse(%q) is read, but List tells %q", s, again)
		}
	}
	for _, line := range lines {
		for at := range len(line) {
			nearly(line[:at])
			nearly(line[:at] + line[at+1:])
			if at > 0 {
				nearly(line[:at-1] + line[at:at+1] + line[at-1:at] + line[at+1:]) // two change places
			}
		}
		for at := range len(line) + 1 {
			for b := range 256 {
				sign := string([]byte{byte(b)})
				nearly(line[:at] + sign + line[at:])
				if at < len(line) {
					nearly(line[:at] + sign + line[at+1:])
				}
			}
		}
	}
}

// P7.3, R1: lines put together of parts by chance.
func TestParseParts(t *testing.T) {
	parts := []string{"text", "start", "end", "comment", "doctype", " ", " ", " ", `"`, `"`, `"a"`, `"b"`, `"c"="d"`, ` "e"="f"`, "=", "/", " /", `\`, `\n`, `\"`, `\\`, "\n", "\t", "A", "x", "é", "\xff", "\x00"}
	chance := rand.New(rand.NewSource(7))
	for range 200000 {
		var s strings.Builder
		for range chance.Intn(9) {
			s.WriteString(parts[chance.Intn(len(parts))])
		}
		hold(t, s.String())
	}
}

// P7.3, P7.4: very long lines, and very many.
func TestParseLong(t *testing.T) {
	long := strings.Repeat("a\n\"\\é", 1<<18)
	l := []api.Token{text(long), comment(long), start("a", attr("b", long)), end("a" + strings.Repeat("é", 1<<18))}
	for range 100000 {
		l = append(l, text("x"), end("p"))
	}
	s, e := token.List(l...)
	if e != api.OK {
		t.Fatalf("List: %d", e)
	}
	if got, at, e := token.Parse(s); !sameAll(got, l) || at != 0 || e != api.OK {
		t.Errorf("Parse: %d tokens, %d, %d", len(got), at, e)
	}
	if got, at, e := token.Parse(s + "x"); len(got) != 0 || at != len(l)+1 || e != api.ErrTokenForm {
		t.Errorf("Parse: %d tokens, %d, %d", len(got), at, e)
	}
}
