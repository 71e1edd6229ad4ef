package chunk

import (
	"iter"
	"sync"

	"sieve/api"
)

// maxAhead is the greatest depth.
const maxAhead = 1000

// answer is what one read tells.
type answer struct {
	data []byte
	err  api.Errno
}

// Ahead: a script's answers, read ahead by a goroutine.
func Ahead(l []api.Step, n, depth int) iter.Seq2[[]byte, api.Errno] {
	begin, e := New(l)
	if e == api.OK && (n < 1 || depth < 1 || depth > maxAhead) {
		e = api.ErrArg
	}
	return func(yield func([]byte, api.Errno) bool) {
		if e != api.OK {
			yield(nil, e)
			return
		}
		source := *begin // of this loop alone
		source.ahead(n, depth, yield)
	}
}

// ahead tells what a goroutine reads, which is gone when it returns, even if yield panics.
func (s *Source) ahead(n, depth int, yield func([]byte, api.Errno) bool) {
	answers := make(chan answer, depth-1) // one more is in the reader's hand
	end := make(chan struct{})
	var readers sync.WaitGroup
	readers.Add(1)
	go func() {
		defer readers.Done()
		s.send(n, answers, end)
	}()
	defer readers.Wait()
	defer close(end)
	for a := range answers {
		if !yield(a.data, a.err) {
			return
		}
	}
}

// send reads, and sends each answer, up to the first error or till the end is closed.
func (s *Source) send(n int, answers chan<- answer, end <-chan struct{}) {
	defer close(answers)
	for data, e := range s.All(n) {
		select {
		case answers <- answer{data: data, err: e}:
		case <-end:
			return
		}
	}
}
