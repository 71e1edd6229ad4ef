package raw_test

import (
	"strings"
	"sync"
	"testing"

	"sieve/api"
	"sieve/raw"
	"sieve/utf"
)

// scanner: a new one of a name that it takes.
func scanner(t *testing.T, name string) *raw.Scanner {
	t.Helper()
	s, e := raw.New(name)
	if s == nil || e != api.OK {
		t.Fatalf("New(%s): %v, %d", name, s, e)
	}
	return s
}

// put: runes that a scanner takes, with no end.
func put(t *testing.T, s *raw.Scanner, runes ...rune) {
	t.Helper()
	for i, r := range runes {
		if over, e := s.Put(r); over || e != api.OK {
			t.Fatalf("Put(%x), the %d-th: %v, %d", r, i, over, e)
		}
	}
}

// putText: the same of a text's runes.
func putText(t *testing.T, s *raw.Scanner, text string) {
	t.Helper()
	put(t, s, []rune(text)...)
}

// stands: a scanner that has not ended: it holds so many runes, and Take tells just that, once.
func stands(t *testing.T, s *raw.Scanner, take string, held int) {
	t.Helper()
	for range 2 {
		if got := s.Held(); got != held {
			t.Fatalf("Held: %d; want %d", got, held)
		}
		if s.Ended() || s.Rune() != 0 {
			t.Fatalf("ended: %v, %x", s.Ended(), s.Rune())
		}
		if got := s.Take(); got != take {
			t.Fatalf("Take: %q; want %q", got, take)
		}
		take = ""
	}
}

// over: a scanner that is over: Take tells what is left, once; it takes no more, nor another end. (end is 0, if no end tag came.)
func over(t *testing.T, s *raw.Scanner, take string, end rune) {
	t.Helper()
	for _, r := range []rune{'>', 'x', '<', '/', ' ', 0, -1} {
		if is, e := s.Put(r); is || e != api.ErrOver {
			t.Fatalf("Put(%x): %v, %d", r, is, e)
		}
		if e := s.End(); e != api.ErrOver {
			t.Fatalf("End: %d", e)
		}
		if s.Held() != 0 || s.Ended() != (end != 0) || s.Rune() != end {
			t.Fatalf("Held %d, Ended %v, Rune %x; want the end %x", s.Held(), s.Ended(), s.Rune(), end)
		}
		if got := s.Take(); got != take {
			t.Fatalf("Take: %q; want %q", got, take)
		}
		take = ""
	}
}

// last: a rune that is the end of the end tag.
func last(t *testing.T, s *raw.Scanner, r rune) {
	t.Helper()
	if over, e := s.Put(r); !over || e != api.OK {
		t.Fatalf("Put(%x): %v, %d", r, over, e)
	}
}

// P10.2, P10.3: a title by hand, Take behind each rune.
func TestPutByHand(t *testing.T) {
	s := scanner(t, "title")
	stands(t, s, "", 0)
	for _, step := range []struct {
		r    rune
		take string
		held int
	}{
		{'a', "a", 0}, {'<', "", 1}, {'<', "<", 1}, {'/', "", 2}, {'/', "<//", 0}, {'<', "", 1}, {'/', "", 2}, {'T', "", 3}, {'i', "", 4}, {'<', "</Ti", 1}, {'/', "", 2}, {'t', "", 3}, {'I', "", 4}, {'t', "", 5}, {'l', "", 6}, {'E', "", 7}, {'e', "</tItlEe", 0}, {' ', " ", 0},
		{'<', "", 1}, {' ', "< ", 0}, {'<', "", 1}, {'t', "<t", 0}, {'/', "/", 0}, {'<', "", 1}, {'!', "<!", 0}, {'é', "é", 0}, {'<', "", 1}, {'/', "", 2}, {' ', "</ ", 0}, {'<', "", 1}, {'/', "", 2}, {'t', "", 3}, {'i', "", 4}, {'t', "", 5}, {'l', "", 6}, {'e', "", 7},
	} {
		put(t, s, step.r)
		stands(t, s, step.take, step.held)
	}
	last(t, s, '\f')
	over(t, s, "", '\f')
}

// P10.3: what is sure is kept till Take tells it, and told once.
func TestTakeLate(t *testing.T) {
	s := scanner(t, "xmp")
	putText(t, s, "ab</x")
	if s.Held() != 3 {
		t.Errorf("Held: %d", s.Held())
	}
	stands(t, s, "ab", 3)
	putText(t, s, "y</xm")
	if s.Held() != 4 {
		t.Errorf("Held: %d", s.Held())
	}
	putText(t, s, "p")
	stands(t, s, "</xy", 5)
	putText(t, s, "=z")
	putText(t, s, "</XMP")
	last(t, s, '/')
	over(t, s, "</xmp=z", '/')
}

// P10.3: script data by hand: what can't be the beginning of an end tag that counts is not held.
func TestPutScriptByHand(t *testing.T) {
	s := scanner(t, "script")
	for _, step := range []struct {
		text, take string
		held       int
	}{
		{"x<", "x", 1}, {"!", "<!", 0}, {"-", "-", 0}, {"-", "-", 0}, {"<", "", 1}, {"s", "<s", 0}, {"cript", "cript", 0}, {"x", "x", 0}, {"</scr", "", 5}, {"<", "</scr", 1}, {"SCRIPT", "<SCRIPT", 0}, {">", ">", 0}, // doubly escaped
		{"<", "<", 0}, {"/", "/", 0}, {"script", "script", 0}, {"x", "x", 0}, {"</script", "</script", 0}, {" ", " ", 0}, // escaped
		{"</script", "", 8}, {"-", "</script-", 0}, {"-", "-", 0}, {">", ">", 0}, // neither
		{"<", "", 1}, {"script>", "<script>", 0}, {"</", "", 2}, {"!--", "</!--", 0}, {"<!-", "<!-", 0}, {"<", "", 1}, {"!--<script ", "<!--<script ", 0}, {"-->", "-->", 0}, {"</script", "", 8},
	} {
		putText(t, s, step.text)
		stands(t, s, step.take, step.held)
	}
	last(t, s, '>')
	over(t, s, "", '>')
}

// P10.2, P10.3: each sign that ends an end tag, of each name.
func TestPutEnds(t *testing.T) {
	for _, name := range all {
		for _, sign := range "\t\n\f />" {
			s := scanner(t, name)
			putText(t, s, "x</"+name)
			if name == "plaintext" {
				put(t, s, sign)
				stands(t, s, "x</plaintext"+string(sign), 0)
				continue
			}
			if s.Held() != len(name)+2 {
				t.Errorf("%s: Held %d", name, s.Held())
			}
			last(t, s, sign)
			over(t, s, "x", sign)
		}
	}
}

// P10.4: ended ahead of the first rune, and at every place of an end tag: all that was put is content.
func TestEnd(t *testing.T) {
	for _, name := range all {
		for _, ahead := range []string{"", "x", "<!--", "<!--<script>", "<!--x-", "<!-", "</</"} {
			text := ahead + "</" + name
			for n := range len(text) + 1 {
				for _, take := range []bool{false, true} {
					s := scanner(t, name)
					putText(t, s, text[:n])
					told := ""
					if take {
						told = s.Take()
					}
					if e := s.End(); e != api.OK {
						t.Fatalf("%s, %q: %d", name, text[:n], e)
					}
					if s.Held() != 0 {
						t.Fatalf("%s, %q: Held %d", name, text[:n], s.Held())
					}
					over(t, s, text[len(told):n], 0)
				}
			}
		}
	}
}

// P10.2, P10.4: an end that is near when End comes does not come any more.
func TestPutBehindEnd(t *testing.T) {
	for _, name := range all {
		s := scanner(t, name)
		putText(t, s, "</"+name)
		s.End()
		if is, e := s.Put('>'); is || e != api.ErrOver || s.Ended() || s.Rune() != 0 || s.Take() != "</"+name {
			t.Errorf("%s: %v, %d", name, is, e)
		}
	}
}

// P10.2, R6: what is no character is U+FFFD in the content; U+0000 is one; none is part of an end tag.
func TestPutNoCodePoints(t *testing.T) {
	for _, r := range []rune{-1, -1 << 31, 1<<31 - 1, 0x110000, 0xD800, 0xDBFF, 0xDC00, 0xDFFF, 0xFFFD, 0x110000 + '>', 0x7FFFFF00 + '<', -1<<31 + '/', 0x110000 + ' ', -0x7FFFFF00 + 't', 0} {
		want := "\ufffd"
		if r == 0 {
			want = "\x00"
		}
		for _, name := range []string{"title", "style", "script"} {
			tag := "</" + name
			for n := range len(tag) + 1 {
				s := scanner(t, name)
				putText(t, s, tag[:n])
				put(t, s, r)
				stands(t, s, tag[:n]+want, 0)
				putText(t, s, tag[n:]+tag)
				last(t, s, '>')
				over(t, s, tag[n:], '>')
			}
		}
		for _, ahead := range []string{"<!", "<!-", "<!--", "<!--x-", "<!--x--", "<!--<scr", "<!--<script", "<!--<script>", "<!--<script>--", "<!--<script><", "<!--<script></", "<!--<script></script"} {
			s := scanner(t, "script")
			putText(t, s, ahead)
			put(t, s, r)
			stands(t, s, ahead+want, 0)
			putText(t, s, "--></script")
			last(t, s, ' ')
			over(t, s, "-->", ' ')
		}
		s := scanner(t, "plaintext")
		put(t, s, r, r)
		stands(t, s, want+want, 0)
	}
	s := scanner(t, "title") // the halves of a pair are no character together
	put(t, s, 0xD83D, 0xDE00, 0x10FFFF)
	stands(t, s, "\ufffd\ufffd\U0010FFFF", 0)
}

// runeByRune: the runes of a text come to what Whole says, whenever Take is asked (behind every n-th rune); at every moment Held is what may be the end tag.
func runeByRune(t *testing.T, name, text string, every int) {
	t.Helper()
	want := whole(t, name, text)
	s := scanner(t, name)
	mended, told, at, n := utf.Mend(text), "", 0, 0
	for place, r := range utf.All([]byte(text)) {
		is, e := s.Put(r)
		at += len(string(r))
		if ends := want.ended && place == want.size-1; is != ends || e != api.OK || s.Ended() != ends {
			t.Fatalf("%s, %q at %d: %v, %d, %v", name, text, place, is, e, s.Ended())
		}
		if is {
			over(t, s, want.content[len(told):], r)
			return
		}
		held := unsure(name, mended[:at])
		if s.Held() != held || s.Rune() != 0 {
			t.Fatalf("%s, %q: Held behind %q: %d; want %d", name, text, mended[:at], s.Held(), held)
		}
		if n++; n%every == 0 {
			got := s.Take()
			if told += got; told != mended[:at-held] || s.Held() != held || s.Take() != "" {
				t.Fatalf("%s, %q: Take behind %q: %q", name, text, mended[:at], got)
			}
		}
	}
	if want.ended {
		t.Fatalf("%s, %q: no end", name, text)
	}
	if e := s.End(); e != api.OK {
		t.Fatalf("%s, %q: End: %d", name, text, e)
	}
	over(t, s, want.content[len(told):], 0)
}

// P10.7, P10.3: odd pieces in every order, of every name.
func TestRuneByRune(t *testing.T) {
	for _, name := range all {
		texts(2, piecesOf(name), func(s string) {
			runeByRune(t, name, s, 1)
			runeByRune(t, name, s+"</"+name+">", 1)
			runeByRune(t, name, s+"</"+name+" ", 3)
			runeByRune(t, name, "<!--<script>"+s, 1<<30)
		})
	}
}

// P10.7, P10.3: script data of its signs and its marks, in every order.
func TestRuneByRuneScript(t *testing.T) {
	texts(4, signs, func(s string) { runeByRune(t, "script", s, 1) })
	texts(3, marks, func(s string) {
		runeByRune(t, "script", s, 1)
		runeByRune(t, "script", "<!--"+s+"</script>", 2)
	})
}

// P10.7: in RCDATA and raw text no more is held than len(name) + 2; so many are.
func TestHeldMost(t *testing.T) {
	for _, name := range append(append([]string{}, rcdata...), rawText...) {
		most := 0
		texts(3, piecesOf(name), func(text string) {
			s := scanner(t, name)
			for _, r := range utf.Mend(text) {
				s.Put(r)
				most = max(most, s.Held())
			}
		})
		if most != len(name)+2 {
			t.Errorf("%s: %d", name, most)
		}
	}
}

// P10.7: runes of which some are no code points come to what Whole says of their text.
func TestPutIsWholeOfText(t *testing.T) {
	some := []rune{'<', '/', 'x', 'M', 'p', '>', -1, 0xD800, 0x110000, 0}
	var grow func(runes []rune, left int)
	grow = func(runes []rune, left int) {
		want := whole(t, "xmp", string(utf.Bytes(runes...)))
		s := scanner(t, "xmp")
		size, ended := 0, false
		for _, r := range runes {
			if ended {
				break
			}
			ended, _ = s.Put(r)
			size += utf.Width(r)
		}
		if !ended {
			s.End()
		}
		if got := (answer{s.Take(), size, ended}); got != want {
			t.Fatalf("%x: %+v; want %+v", runes, got, want)
		}
		if left == 0 {
			return
		}
		for _, r := range some {
			grow(append(runes[:len(runes):len(runes)], r), left-1)
		}
	}
	grow(nil, 3)
	grow([]rune{'<', '/', 'X'}, 4)
}

// P10.2 to P10.4, R5: scanners that no call made.
func TestUnmade(t *testing.T) {
	for _, s := range []*raw.Scanner{nil, {}} {
		for range 2 {
			for _, r := range "a</title>\x00" {
				if is, e := s.Put(r); is || e != api.ErrMade {
					t.Errorf("Put: %v, %d", is, e)
				}
				if s.Take() != "" || s.Held() != 0 || s.Ended() || s.Rune() != 0 {
					t.Errorf("%q, %d, %v, %x", s.Take(), s.Held(), s.Ended(), s.Rune())
				}
				if e := s.End(); e != api.ErrMade {
					t.Errorf("End: %d", e)
				}
			}
		}
	}
}

// R3: what Take told stays, whatever is put behind it.
func TestTakeStays(t *testing.T) {
	s := scanner(t, "title")
	var got, want []string
	for i := range 300 {
		text := strings.Repeat(string(rune('a'+i%26)), 1+i%7)
		putText(t, s, text+"</ti")
		got, want = append(got, s.Take()), append(want, text)
	}
	for i := range got {
		if i > 0 {
			want[i] = "</ti" + want[i]
		}
		if got[i] != want[i] {
			t.Fatalf("the %d-th: %q; want %q", i, got[i], want[i])
		}
	}
}

// R4: two scanners know nothing of each other.
func TestScannersApart(t *testing.T) {
	a, b, c := scanner(t, "title"), scanner(t, "title"), scanner(t, "script")
	putText(t, a, "a</ti")
	putText(t, b, "b</title")
	putText(t, c, "<!--<script")
	putText(t, a, "tle")
	last(t, b, '>')
	put(t, c, '>')
	stands(t, a, "a", 7)
	over(t, b, "b", '>')
	put(t, a, 'x')
	putText(t, c, "</script>")
	stands(t, a, "</titlex", 0)
	stands(t, c, "<!--<script></script>", 0)
	a.End()
	putText(t, c, "</script")
	last(t, c, '/')
	over(t, a, "", 0)
	over(t, c, "", '/')
}

// R4: the same answers by many goroutines at once.
func TestTogether(t *testing.T) {
	var group sync.WaitGroup
	for range 16 {
		group.Go(func() {
			for _, name := range all {
				for _, text := range []string{"a</" + name + " ", "<!--<script></" + name + ">--></" + name + ">", "\xff</" + name, "x"} {
					if content, n, ended, e := raw.Whole(name, text); e != api.OK || (answer{content, n, ended}) != model(name, text) {
						t.Errorf("%s, %q: %q, %d, %v, %d", name, text, content, n, ended, e)
					}
				}
				if ok, e := raw.Safe(name, "x"); ok != (name != "plaintext") || e != api.OK {
					t.Errorf("%s: %v, %d", name, ok, e)
				}
			}
		})
	}
	group.Wait()
}

// R1: long contents put one by one, with Take behind each of them or never.
func TestPutLong(t *testing.T) {
	const many = 1 << 18
	for _, take := range []bool{false, true} {
		for _, unit := range []string{"x", "<", "</title", "é", "</titlex"} {
			s := scanner(t, "title")
			runes, size := []rune(unit), 0
			for range many {
				for _, r := range runes {
					s.Put(r)
					if take {
						size += len(s.Take())
					}
				}
			}
			s.End()
			if size += len(s.Take()); size != many*len(unit) {
				t.Errorf("many %q: %d bytes; want %d", unit, size, many*len(unit))
			}
		}
	}
}
