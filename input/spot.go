package input

import (
	"iter"

	"sieve/api"
	"sieve/utf"
)

// spot is where the next cell stands.
type spot struct{ at api.Place }

// beginning: the spot of the first cell.
func beginning() spot { return spot{api.Place{Line: 1, Col: 1}} }

// cells tells the cells of bytes that stand at the spot; told to the end, it leaves the spot behind them.
func (s *spot) cells(b []byte) iter.Seq[api.Cell] {
	return func(yield func(api.Cell) bool) {
		from, last := s.at.Byte, rune(0)
		for at, r := range utf.All(b) {
			joined := last == '\r' && r == '\n' // the cell of the CR is that of both
			last = r
			if joined {
				continue
			}
			s.at.Byte = from + at
			c := api.Cell{Rune: Plain(r), At: s.at}
			s.pass(c.Rune)
			if !yield(c) {
				return
			}
		}
		s.at.Byte = from + len(b)
	}
}

// read: the same cells as a list.
func (s *spot) read(b []byte) []api.Cell {
	var out []api.Cell
	for c := range s.cells(b) {
		out = append(out, c)
	}
	return out
}

// pass: line and column go on behind a rune. (Of its bytes only the loop around knows how many they are.)
func (s *spot) pass(r rune) {
	s.at.Col++
	if r == '\n' {
		s.at.Line++
		s.at.Col = 1
	}
}
