package markup_test

import (
	"strings"
	"sync"
	"testing"

	"sieve/api"
	"sieve/markup"
	"sieve/utf"
)

// scanner: a new one of a kind that there is.
func scanner(t *testing.T, kind int) *markup.Scanner {
	t.Helper()
	s, e := markup.New(kind)
	if s == nil || e != api.OK {
		t.Fatalf("New(%d): %v, %d", kind, s, e)
	}
	return s
}

// put: runes that a scanner takes, with no end.
func put(t *testing.T, s *markup.Scanner, runes ...rune) {
	t.Helper()
	for i, r := range runes {
		if over, e := s.Put(r); over || e != api.OK {
			t.Fatalf("Put(%x), the %d-th: %v, %d", r, i, over, e)
		}
	}
}

// last: a rune that is the last one of the end.
func last(t *testing.T, s *markup.Scanner, r rune) {
	t.Helper()
	if over, e := s.Put(r); !over || e != api.OK {
		t.Fatalf("Put(%x): %v, %d", r, over, e)
	}
}

// over: a scanner that is over: it says what it says, and takes no more, nor another end.
func over(t *testing.T, s *markup.Scanner, want string) {
	t.Helper()
	for _, r := range []rune{'>', 'a', '-', '-', '>', 0, -1} {
		if got := s.Text(); got != want {
			t.Fatalf("Text: %q; want %q", got, want)
		}
		if is, e := s.Put(r); is || e != api.ErrOver {
			t.Fatalf("Put(%x): %v, %d", r, is, e)
		}
		if e := s.End(); e != api.ErrOver {
			t.Fatalf("End: %d", e)
		}
	}
	if got := s.Text(); got != want {
		t.Fatalf("Text: %q; want %q", got, want)
	}
}

// runeByRune: the runes of a text, one by one, come to what is wanted; at every moment Text is what the runes up to there say.
func runeByRune(t *testing.T, kind int, text string, want answer) {
	t.Helper()
	s := scanner(t, kind)
	mended := utf.Mend(text)
	at := 0
	for place, r := range utf.All([]byte(text)) {
		if got := s.Text(); got != unclosed(kind, mended[:at]) {
			t.Fatalf("%d, %q: Text of %q: %q", kind, text, mended[:at], got)
		}
		is, e := s.Put(r)
		at += len(string(r))
		if ends := want.closed && place == want.size-1; is != ends || e != api.OK {
			t.Fatalf("%d, %q at %d: %v, %d", kind, text, place, is, e)
		}
		if is {
			over(t, s, want.says)
			return
		}
	}
	if got := s.Text(); got != want.says || want.closed {
		t.Fatalf("%d, %q: %q, not closed; want %+v", kind, text, got, want)
	}
	if e := s.End(); e != api.OK {
		t.Fatalf("%d, %q: End: %d", kind, text, e)
	}
	over(t, s, want.says)
}

// P9.4: kinds that there are not.
func TestNewNoKind(t *testing.T) {
	for _, kind := range noKinds {
		if s, e := markup.New(kind); s != nil || e != api.ErrArg {
			t.Errorf("%d: %v, %d", kind, s, e)
		}
	}
}

// P9.4: a comment by hand, with Text at every moment.
func TestPutByHand(t *testing.T) {
	s := scanner(t, markup.Comment)
	for _, step := range []struct {
		r    rune
		text string
	}{
		{'-', ""}, {'a', "-a"}, {'>', "-a>"}, {'-', "-a>"}, {'>', "-a>->"}, {'-', "-a>->"}, {'-', "-a>->"}, {'-', "-a>->-"}, {'!', "-a>->-"}, {'-', "-a>->---!"}, {'!', "-a>->---!-!"}, {'-', "-a>->---!-!"}, {'-', "-a>->---!-!"}, {'!', "-a>->---!-!"}, {'!', "-a>->---!-!--!!"}, {'-', "-a>->---!-!--!!"}, {'-', "-a>->---!-!--!!"},
	} {
		put(t, s, step.r)
		for range 2 {
			if got := s.Text(); got != step.text {
				t.Fatalf("behind %c: %q; want %q", step.r, got, step.text)
			}
		}
	}
	last(t, s, '>')
	over(t, s, "-a>->---!-!--!!")
}

// P9.4: bogus comments and doctypes by hand.
func TestPutOthersByHand(t *testing.T) {
	b, d := scanner(t, markup.Bogus), scanner(t, markup.Doctype)
	want := ""
	for _, r := range "--!-\"é-" {
		if b.Text() != want || d.Text() != "" {
			t.Fatalf("%q, %q; want %q", b.Text(), d.Text(), want)
		}
		put(t, b, r)
		put(t, d, r)
		want += string(r)
	}
	last(t, b, '>')
	last(t, d, '>')
	over(t, b, "--!-\"é-")
	over(t, d, "")
}

// P9.4: ended ahead of the first rune, and in every state.
func TestEnd(t *testing.T) {
	for _, kind := range kinds {
		texts(5, []string{"-", "!", "a"}, func(text string) {
			s := scanner(t, kind)
			for _, r := range text {
				put(t, s, r)
			}
			if e := s.End(); e != api.OK {
				t.Fatalf("%d, %q: %d", kind, text, e)
			}
			over(t, s, unclosed(kind, text))
		})
	}
}

// P9.4: an end that is near when End comes does not come any more.
func TestPutBehindEnd(t *testing.T) {
	for _, text := range []string{"", "-", "--", "--!", "a--", "a--!", "a---"} {
		s := scanner(t, markup.Comment)
		for _, r := range text {
			put(t, s, r)
		}
		was := s.Text()
		s.End()
		if is, e := s.Put('>'); is || e != api.ErrOver || s.Text() != was {
			t.Errorf("%q: %v, %d, %q", text, is, e, s.Text())
		}
	}
}

// P9.4: what is no character is U+FFFD in what it says; U+0000 is one; neither ends anything, nor is part of an end.
func TestPutNoCodePoints(t *testing.T) {
	for _, r := range []rune{-1, -1 << 31, 1<<31 - 1, 0x110000, 0xD800, 0xDBFF, 0xDC00, 0xDFFF, 0xFFFD, 0x110000 + '>', 0x7FFFFF00 + '-', -1<<31 + '>', 0} {
		want := "\ufffd"
		if r == 0 {
			want = "\x00"
		}
		s := scanner(t, markup.Comment)
		put(t, s, r, '-', r, '>', '-', '-', r, '>', '-', '-', '!', r, '>', '-', '-', '-', r)
		text := strings.ReplaceAll("?-?>--?>--!?>---?", "?", want)
		if got := s.Text(); got != text {
			t.Fatalf("%x: %q; want %q", r, got, text)
		}
		put(t, s, '-', '-')
		last(t, s, '>')
		over(t, s, text)
		for _, ahead := range []string{"", "-", "--", "--!"} { // the very beginning is over with it
			s = scanner(t, markup.Comment)
			for _, a := range ahead {
				put(t, s, a)
			}
			put(t, s, r, '>')
			s.End()
			over(t, s, ahead+want+">")
		}
		b, d := scanner(t, markup.Bogus), scanner(t, markup.Doctype)
		put(t, b, r, 'a', r)
		put(t, d, r, 'a', r)
		last(t, b, '>')
		last(t, d, '>')
		over(t, b, want+"a"+want)
		over(t, d, "")
	}
	s := scanner(t, markup.Bogus) // the halves of a pair are no character together
	put(t, s, 0xD83D, 0xDE00, 0x10FFFF)
	last(t, s, '>')
	over(t, s, "\ufffd\ufffd\U0010FFFF")
}

// P9.5: runes of which some are no code points come to what Whole says of their text.
func TestPutIsWholeOfText(t *testing.T) {
	some := []rune{'-', '>', '!', -1, 0xD800, 0x110000, 0, 'é'}
	var grow func(runes []rune, left int)
	grow = func(runes []rune, left int) {
		text := string(utf.Bytes(runes...))
		for _, kind := range kinds {
			want := whole(t, kind, text)
			s := scanner(t, kind)
			size, closed := 0, false
			for _, r := range runes {
				if closed {
					break
				}
				closed, _ = s.Put(r)
				size += utf.Width(r)
			}
			if got := (answer{s.Text(), size, closed}); got != want {
				t.Fatalf("%d, %x: %+v; want %+v", kind, runes, got, want)
			}
		}
		if left == 0 {
			return
		}
		for _, r := range some {
			grow(append(runes[:len(runes):len(runes)], r), left-1)
		}
	}
	grow(nil, 5)
}

// P9.5: all short texts of the signs that matter, and odd pieces in every order.
func TestRuneByRune(t *testing.T) {
	for _, kind := range kinds {
		texts(7, signs, func(s string) { runeByRune(t, kind, s, whole(t, kind, s)) })
		texts(3, pieces, func(s string) { runeByRune(t, kind, s, whole(t, kind, s)) })
	}
}

// P9.4, R5: scanners that no call made.
func TestUnmade(t *testing.T) {
	for _, s := range []*markup.Scanner{nil, {}} {
		for range 2 {
			for _, r := range []rune{'a', '-', '-', '>', 0, -1} {
				if is, e := s.Put(r); is || e != api.ErrMade {
					t.Errorf("Put: %v, %d", is, e)
				}
				if got := s.Text(); got != "" {
					t.Errorf("Text: %q", got)
				}
				if e := s.End(); e != api.ErrMade {
					t.Errorf("End: %d", e)
				}
			}
		}
	}
}

// R3: what Text answered stays, whatever is put behind it.
func TestTextStays(t *testing.T) {
	for _, kind := range []int{markup.Comment, markup.Bogus} {
		s := scanner(t, kind)
		var got, want []string
		text := ""
		for i := range 300 {
			r := rune('a' + i%26)
			put(t, s, r)
			text += string(r)
			got, want = append(got, s.Text()), append(want, text)
		}
		s.End()
		for i := range got {
			if got[i] != want[i] {
				t.Fatalf("behind %d: %q", i, got[i])
			}
		}
	}
}

// R4: two scanners know nothing of each other.
func TestScannersApart(t *testing.T) {
	a, b, c := scanner(t, markup.Comment), scanner(t, markup.Comment), scanner(t, markup.Bogus)
	put(t, a, 'a', '-')
	put(t, b, '-', '-')
	put(t, c, '-')
	put(t, a, '-', '!')
	last(t, b, '>')
	put(t, c, '-', '!')
	last(t, a, '>')
	put(t, c, 'x')
	c.End()
	over(t, a, "a")
	over(t, b, "")
	over(t, c, "--!x")
}

// R4: the same answers by many goroutines at once.
func TestTogether(t *testing.T) {
	var group sync.WaitGroup
	for range 16 {
		group.Go(func() {
			for _, text := range []string{"a--!b->--!>c", "-->", "a\xff--", "->"} {
				for _, kind := range kinds {
					if says, n, closed, e := markup.Whole(kind, text); e != api.OK || (answer{says, n, closed}) != model(kind, text) {
						t.Errorf("%d, %q: %q, %d, %v, %d", kind, text, says, n, closed, e)
					}
				}
			}
			if k, n := markup.Open("DOCTYPE"); k != markup.Doctype || n != 7 {
				t.Errorf("%d, %d", k, n)
			}
		})
	}
	group.Wait()
}
