package input_test

import (
	"bytes"
	"slices"
	"testing"

	"sieve/api"
	"sieve/input"
)

const sample = "a\r\n\xe2\x82é\x00\xff€\rb"

// R3: what is handed in stays, with the room behind its end.
func TestNothingChanged(t *testing.T) {
	room := []byte(sample + "\r\xf0\x9f\x98room")
	was := bytes.Clone(room)
	for end := range room {
		b := room[:end]
		s := input.New()
		s.Feed(b)
		s.Feed(b[:0])
		s.End()
		input.Read(b)
		input.Text(b)
		input.Lines(b)
		input.Where(b, end/2)
		if !bytes.Equal(room, was) {
			t.Fatalf("changed: %x", room)
		}
	}
}

// R3: a stream keeps nothing of what it was fed.
func TestNothingKept(t *testing.T) {
	b := []byte("a\r\xf0\x9f\x98")
	s := input.New()
	s.Feed(b)
	clear(b)
	if l, e := s.Feed([]byte{0x80}); e != api.OK || !slices.Equal(l, []api.Cell{cell('\n', 1, 1, 2), cell(0x1F600, 2, 2, 1)}) {
		t.Errorf("kept: %v, %d", l, e)
	}
	b = []byte("\r")
	s.Feed(b)
	b[0] = 'x'
	if l, e := s.End(); e != api.OK || !slices.Equal(l, []api.Cell{cell('\n', 6, 2, 2)}) {
		t.Errorf("kept: %v, %d", l, e)
	}
}

// R3: texts and lines stay as they are, whatever is done with the bytes later.
func TestTextsStay(t *testing.T) {
	b := []byte("one\ntwo\nthree")
	text, lines := input.Text(b), input.Lines(b)
	clear(b)
	if text != "one\ntwo\nthree" || !slices.Equal(lines, []string{"one", "two", "three"}) {
		t.Errorf("%q, %q", text, lines)
	}
}

// scribble: writes over a list and the room behind it.
func scribble(l []api.Cell) {
	l = l[:cap(l)]
	for n := range l {
		l[n] = cell('!', -1, -1, -1)
	}
}

// R3: an answer is new memory; what is done with it, its spare room too, is nothing to later ones.
func TestAnswersStay(t *testing.T) {
	b := []byte(sample)
	want, place := model(b)
	scribble(input.Read(b))
	if got := input.Read(b); !slices.Equal(got, want) {
		t.Errorf("Read: %v", got)
	}
	s := input.New()
	var answers [][]api.Cell
	var copies [][]api.Cell
	for at := range b {
		l, _ := s.Feed(b[at : at+1])
		answers, copies = append(answers, l), append(copies, slices.Clone(l))
	}
	l, _ := s.End()
	answers, copies = append(answers, l), append(copies, slices.Clone(l))
	if got := slices.Concat(answers...); !slices.Equal(got, want) {
		t.Fatalf("told: %v", got)
	}
	for n, l := range answers {
		scribble(l)
		for k := n + 1; k < len(answers); k++ {
			if !slices.Equal(answers[k], copies[k]) {
				t.Fatalf("answer %d changed with %d", k, n)
			}
		}
	}
	if s.Place() != place {
		t.Errorf("Place: %v", s.Place())
	}
	s = input.New()
	got := want[:0:0]
	for at := range b {
		l, _ := s.Feed(b[at : at+1])
		got = append(got, l...)
		scribble(l)
	}
	l, _ = s.End()
	if got = append(got, l...); !slices.Equal(got, want) {
		t.Errorf("told beside scribbles: %v", got)
	}
}

// R3: nil and empty lists are the same.
func TestEmpty(t *testing.T) {
	for _, b := range [][]byte{nil, {}} {
		if len(input.Read(b)) != 0 || input.Text(b) != "" || len(input.Lines(b)) != 0 {
			t.Error("of nothing")
		}
		s := input.New()
		if l, e := s.Feed(b); len(l) != 0 || e != api.OK || s.Place() != (api.Place{Byte: 0, Line: 1, Col: 1}) {
			t.Errorf("Feed of nothing: %v, %d, Place %v", l, e, s.Place())
		}
	}
}
