package chunk

import (
	"bytes"
	"slices"

	"sieve/api"
)

// reader is what a buffer reads from.
type reader interface {
	Read(n int) ([]byte, api.Errno)
}

// Buffer holds what it has read ahead of what is taken.
type Buffer struct {
	from  reader
	size  int
	held  []byte // nothing is written in place or behind its end: a copy of the buffer may share it
	taken int
}

// NewBuffer: one that has read nothing.
func NewBuffer(s *Source, size int) (*Buffer, api.Errno) {
	switch {
	case !s.isMade():
		return nil, api.ErrMade
	case size < 1 || size > api.MaxInput:
		return nil, api.ErrArg
	}
	return &Buffer{from: s, size: size}, api.OK
}

// Peek: the next n bytes, which stay.
func (b *Buffer) Peek(n int) ([]byte, api.Errno) {
	switch {
	case !b.isMade():
		return nil, api.ErrMade
	case n < 0 || n > b.size:
		return nil, api.ErrArg
	}
	missing := n
	e := b.fill(func(piece []byte) bool {
		missing -= len(piece)
		return missing <= 0
	})
	return bytes.Clone(b.held[:min(n, len(b.held))]), e
}

// Take: the next n bytes, which are taken.
func (b *Buffer) Take(n int) ([]byte, api.Errno) {
	data, e := b.Peek(n)
	if len(data) > 0 {
		b.drop(len(data))
	}
	return data, e
}

// Until: the bytes up to the first c, with it.
func (b *Buffer) Until(c byte) ([]byte, api.Errno) {
	if !b.isMade() {
		return nil, api.ErrMade
	}
	end := 0 // behind c; behind all, as long as there is none
	e := b.fill(func(piece []byte) bool {
		at := bytes.IndexByte(piece, c)
		if at < 0 {
			end += len(piece)
			return false
		}
		end += at + 1
		return true
	})
	if e == api.ErrChunkFull {
		return nil, e
	}
	data := bytes.Clone(b.held[:end])
	b.drop(end)
	return data, e
}

// Rest: all bytes up to the source's end.
func (b *Buffer) Rest() ([]byte, api.Errno) {
	if !b.isMade() {
		return nil, api.ErrMade
	}
	var all []byte
	for {
		e := b.fill(func([]byte) bool { return false })
		all = append(all, b.held...)
		b.drop(len(b.held))
		switch e {
		case api.ErrChunkFull: // there is room again
		case api.ErrChunkEnd:
			return all, api.OK
		default:
			return all, e
		}
	}
}

// Has: how many bytes it has that nobody has taken.
func (b *Buffer) Has() int {
	if !b.isMade() {
		return 0
	}
	return len(b.held)
}

// Taken: how many bytes have been taken.
func (b *Buffer) Taken() int {
	if !b.isMade() {
		return 0
	}
	return b.taken
}

// fill reads until enough, which is shown what is held and then each piece that comes, says so: OK; else what stopped it.
func (b *Buffer) fill(enough func(piece []byte) bool) api.Errno {
	held := slices.Clip(b.held) // so the first piece makes it grow into memory of its own
	piece, empty, e := held, 0, api.OK
fills:
	for !enough(piece) {
		if len(held) == b.size {
			e = api.ErrChunkFull
			break fills
		}
		piece, e = b.from.Read(b.size - len(held))
		held = append(held, piece...)
		empty++
		switch {
		case e != api.OK:
			break fills
		case len(piece) > 0:
			empty = 0
		case empty == api.MaxEmpty:
			e = api.ErrChunkStuck
			break fills
		}
	}
	b.held = held
	return e
}

// drop takes the first n bytes that it has.
func (b *Buffer) drop(n int) {
	b.taken += n
	b.held = b.held[n:]
	if len(b.held) == 0 {
		b.held = nil // what is taken is not kept
	}
}

// isMade: did NewBuffer make it?
func (b *Buffer) isMade() bool { return b != nil && b.from != nil }
