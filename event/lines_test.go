package event_test

import (
	"math/rand"
	"slices"
	"strings"
	"testing"

	"sieve/api"
	"sieve/event"
)

// hold: is what Parse answers what the chapter asks?
func hold(t *testing.T, s string) {
	t.Helper()
	if got, want := show(event.Parse(s)), show(parsed(s)); got != want {
		t.Errorf("Parse(%.200q): %s; not %s", s, got, want)
	}
}

// P18.7: lines of each kind, by hand.
func TestPrintByHand(t *testing.T) {
	for _, c := range []struct {
		e    api.Event
		want string
	}{
		{text("x"), `text "x"`}, {text("a\nb\tc\"d\\e"), `text "a\nb\tc\"d\\e"`}, {text(`\n`), `text "\\n"`}, {text("\r\x00é€\U0001F600\u0085"), "text \"\r\x00é€\U0001F600\u0085\""}, {text(" "), `text " "`},
		{open("a", attr("href", "x")), `open "a" "href"="x"`}, {open("a"), `open "a"`}, {open("a", attr("c", "\n"), attr("b", `"`), attr("=", "")), `open "a" "c"="\n" "b"="\"" "="=""`}, {open(`a"\é`), `open "a\"\\é"`}, {open("a", attr(`"`, `\`)), `open "a" "\""="\\"`}, {open("start"), `open "start"`},
		{end("a"), `close "a"`}, {end(`a"`), `close "a\""`}, {end("br"), `close "br"`}, {end("end"), `close "end"`},
		{void("br"), `void "br"`}, {void("img", attr("alt", "x y"), attr("src", "é")), `void "img" "alt"="x y" "src"="é"`},
	} {
		if got, err := event.Print(c.e); got != c.want+"\n" || err != api.OK {
			t.Errorf("Print(%+v): %q, %d", c.e, got, err)
		}
		for _, s := range []string{c.want, c.want + "\n"} {
			if l, at, err := event.Parse(s); !event.Equal(l, []api.Event{c.e}) || at != 0 || err != api.OK {
				t.Errorf("Parse(%q): %+v, %d, %d", s, l, at, err)
			}
		}
	}
	l := []api.Event{open("a", attr("href", "x")), text("y"), end("a")}
	if got, err := event.Print(l...); got != "open \"a\" \"href\"=\"x\"\ntext \"y\"\nclose \"a\"\n" || err != api.OK {
		t.Errorf("Print: %q, %d", got, err)
	}
	if got, err := event.Print(); got != "" || err != api.OK {
		t.Errorf("Print(): %q, %d", got, err)
	}
	// They need not be well nested.
	if got, err := event.Print(end("b"), open("i")); got != "close \"b\"\nopen \"i\"\n" || err != api.OK {
		t.Errorf("Print: %q, %d", got, err)
	}
}

// P18.7: an event that may not be, at each place.
func TestPrintImpossible(t *testing.T) {
	l := parts("+p 'x =br -p")
	for _, bad := range impossible() {
		for at := range len(l) + 1 {
			if got, err := event.Print(slices.Insert(slices.Clone(l), at, bad)...); got != "" || err != api.ErrEventForm {
				t.Errorf("%+v at %d: %q, %d", bad, at, got, err)
			}
		}
	}
}

// P18.7: lines by hand, with what is wrong.
func TestParseByHand(t *testing.T) {
	for _, c := range []struct {
		s  string
		n  int // events
		at int // the wrong line
	}{
		{"", 0, 0}, {"\n", 0, 1}, {"\n\n", 0, 1}, {`text "x"`, 1, 0}, {"text \"x\"\n", 1, 0}, {"text \"x\"\n\n", 0, 2}, {"\ntext \"x\"", 0, 1}, {"text \"x\"\n\ntext \"x\"", 0, 2}, {"text \"x\"\nclose \"b\"", 2, 0}, {"text \"x\"\r\n", 0, 1},
		{`text ""`, 0, 1}, {`text`, 0, 1}, {`text `, 0, 1}, {`text x`, 0, 1}, {`text"x"`, 0, 1}, {`text  "x"`, 0, 1}, {` text "x"`, 0, 1}, {`text "x" `, 0, 1}, {"text\t\"x\"", 0, 1}, {`text "x" "y"`, 0, 1}, {`text "x" "y"="z"`, 0, 1}, {`text "x" /`, 0, 1}, {`text "x`, 0, 1}, {`text x"`, 0, 1}, {`text 'x'`, 0, 1}, {`text "x""`, 0, 1},
		{`text "\n\t\"\\"`, 1, 0}, {`text "\r"`, 0, 1}, {`text "\x"`, 0, 1}, {`text "\`, 0, 1}, {`text "\"`, 0, 1}, {"text \"\t\"", 0, 1}, {"text \"a\nb\"", 0, 1}, {"text \"\xff\"", 0, 1}, {"text \"\xe2\x82\"", 0, 1}, {"text \"\ufffd\"", 1, 0}, {"text \"\r\x00\"", 1, 0},
		{`open "a"`, 1, 0}, {`open "a" "b"="c"`, 1, 0}, {`open "a" "b"="c" "d"="e"`, 1, 0}, {`open "a" /`, 0, 1}, {`open "a" "b"="c" /`, 0, 1}, {`open "br"`, 0, 1}, {`open "A"`, 0, 1}, {`open ""`, 0, 1}, {`open`, 0, 1}, {`open a`, 0, 1}, {`open  "a"`, 0, 1}, {`open "a"  "b"="c"`, 0, 1}, {`open "a" "b"`, 0, 1}, {`open "a" "b"=`, 0, 1}, {`open "a" "b"=c`, 0, 1}, {`open "a" b="c"`, 0, 1}, {`open "a" "b" = "c"`, 0, 1}, {`open "a" "b"="c" `, 0, 1}, {`open "a" "b"="c" "b"="d"`, 0, 1}, {`open "a" "B"="c"`, 0, 1}, {`open "a" ""="c"`, 0, 1}, {`open "a""b"="c"`, 0, 1}, {"open \"a\" \"b\"=\"\xff\"", 0, 1}, {"open \"a\xff\"", 0, 1}, {`open "p" "x"="\n"`, 1, 0},
		{`close "a"`, 1, 0}, {`close "br"`, 1, 0}, {`close "A"`, 0, 1}, {`close ""`, 0, 1}, {`close "a" "b"="c"`, 0, 1}, {`close "a" /`, 0, 1}, {`close`, 0, 1}, {`close "a\n"`, 0, 1},
		{`void "br"`, 1, 0}, {`void "br" "a"="b"`, 1, 0}, {`void "p"`, 0, 1}, {`void "param"`, 0, 1}, {`void "br" /`, 0, 1}, {`void ""`, 0, 1}, {`void`, 0, 1},
		{`start "a"`, 0, 1}, {`end "a"`, 0, 1}, {`comment "x"`, 0, 1}, {`doctype`, 0, 1}, {`Open "a"`, 0, 1}, {`opens "a"`, 0, 1}, {`ope "a"`, 0, 1}, {`0 "a"`, 0, 1}, {`"a"`, 0, 1}, {` "a"`, 0, 1}, {` `, 0, 1}, {"x", 0, 1}, {"open \"a\"\nstart \"a\"", 0, 2}, {"\ufefftext \"x\"", 0, 1}, {`open "open"`, 1, 0},
		{"void \"br\"\nvoid \"p\"\n", 0, 2}, {"text \"x\"\ntext \"\"\nvoid \"p\"\n", 0, 2}, {strings.Repeat("void \"br\"\n", 999) + "x", 0, 1000}, {"close \"b\"\nopen \"i\"\n", 2, 0},
	} {
		l, at, err := event.Parse(c.s)
		if len(l) != c.n || at != c.at || err != errno(c.at == 0) {
			t.Errorf("Parse(%.100q): %+v, %d, %d", c.s, l, at, err)
		}
		hold(t, c.s)
	}
}

// P18.7: each event that may not be, in a line as it would be told.
func TestParseImpossible(t *testing.T) {
	for _, bad := range impossible() {
		if bad.Kind < 0 || bad.Kind > 3 {
			continue
		}
		s := printed([]api.Event{text("x"), bad, text("y")})
		hold(t, s)
		// A line says no more than its kind has, so that what is too much is not told at all.
		if bad.Kind == api.EventText && bad.Text == "x" && bad.Attrs == nil || bad.Kind != api.EventText && bad.Text != "" {
			continue
		}
		if l, at, err := event.Parse(s); len(l) != 0 || at != 2 || err != api.ErrEventForm {
			t.Errorf("Parse(%q): %+v, %d, %d", s, l, at, err)
		}
	}
}

// P18.7: lines with one byte less, one more, another one.
func TestParseNearly(t *testing.T) {
	lines := []string{`text "x\n"`, `close "p"`, `void "br"`, `open "a"`, `open "a" "b"="c"`, `void "hr" "=b"="\"" "é"=""`, "text \"a\"\nclose \"b\"\nvoid \"br\"\n"}
	nearly := func(s string) {
		hold(t, s)
		l, _, err := event.Parse(s)
		if err != api.OK {
			return
		}
		if again, err := event.Print(l...); err != api.OK || strings.TrimSuffix(again, "\n") != strings.TrimSuffix(s, "\n") {
			t.Errorf("Parse(%q) is read, but Print tells %q", s, again)
		}
	}
	for _, line := range lines {
		for at := range len(line) {
			nearly(line[:at])
			nearly(line[:at] + line[at+1:])
		}
		for at := range len(line) + 1 {
			for b := range 256 {
				sign := string([]byte{byte(b)})
				nearly(line[:at] + sign + line[at:])
				if at < len(line) {
					nearly(line[:at] + sign + line[at+1:])
				}
			}
		}
	}
}

// P18.7, R1: lines put together of pieces by chance.
func TestParsePieces(t *testing.T) {
	pieces := []string{"text", "open", "close", "void", "start", " ", " ", " ", `"`, `"`, `"a"`, `"b"`, `"br"`, `"c"="d"`, ` "e"="f"`, "=", "/", " /", `\`, `\n`, `\"`, "\n", "\n", "\t", "A", "x", "é", "\xff", "text \"x\"\n", "open \"p\"\n"}
	r := rand.New(rand.NewSource(2))
	for range 100000 {
		var s strings.Builder
		for range r.Intn(9) {
			s.WriteString(oneOf(r, pieces...))
		}
		hold(t, s.String())
	}
}

// P18.10: Parse undoes Print, with and without the last line feed.
func TestThereAndBack(t *testing.T) {
	r := rand.New(rand.NewSource(3))
	for range 3000 {
		l := slices.DeleteFunc(someEvents(r), func(e api.Event) bool { return !mayBe(e) })
		s, err := event.Print(l...)
		if err != api.OK || s != printed(l) {
			t.Fatalf("Print(%+v): %q, %d", l, s, err)
		}
		for _, s := range []string{s, strings.TrimSuffix(s, "\n")} {
			if got, at, err := event.Parse(s); !event.Equal(got, l) || at != 0 || err != api.OK {
				t.Fatalf("Parse(%q): %+v, %d, %d", s, got, at, err)
			}
		}
	}
}

// P18.7, P18.10: very long lines, and very many.
func TestParseLong(t *testing.T) {
	long := strings.Repeat("a\n\"\\é", 1<<16)
	l := []api.Event{text(long), open("a", attr("b", long)), end("a" + strings.Repeat("é", 1<<16))}
	for range 50000 {
		l = append(l, text("x"), void("br"))
	}
	s, err := event.Print(l...)
	if err != api.OK {
		t.Fatal(err)
	}
	if got, at, err := event.Parse(s); !event.Equal(got, l) || at != 0 || err != api.OK {
		t.Errorf("Parse: %d events, %d, %d", len(got), at, err)
	}
	if got, at, err := event.Parse(s + "x"); len(got) != 0 || at != len(l)+1 || err != api.ErrEventForm {
		t.Errorf("Parse: %d events, %d, %d", len(got), at, err)
	}
}
