package chunk

import (
	"testing"
	"testing/synctest"

	"sieve/api"
)

// P2.12: the goroutine reads up to depth answers ahead of the loop, no more and no fewer. (Seen from inside: no answer shows it.)
func TestDepth(t *testing.T) {
	data := make([]byte, 40)
	for _, depth := range []int{1, 2, 7, 39, 40, 1000} {
		synctest.Test(t, func(t *testing.T) {
			s, e := New([]api.Step{{Data: data}})
			if e != api.OK {
				t.Fatal(e)
			}
			seen := 0
			s.ahead(1, depth, func(b []byte, e api.Errno) bool {
				seen += len(b)
				synctest.Wait()
				if want := min(seen+depth, len(data)); s.Told() != want {
					t.Errorf("depth %d: %d read behind %d, not %d", depth, s.Told(), seen, want)
				}
				return true
			})
			if seen != len(data) {
				t.Errorf("depth %d: %d told", depth, seen)
			}
		})
	}
}

// P2.12, R4: when the loop has ended, the goroutine reads no more.
func TestJoined(t *testing.T) {
	for range 200 {
		synctest.Test(t, func(t *testing.T) {
			s, _ := New(make([]api.Step, 2000))
			s.ahead(1, 1000, func([]byte, api.Errno) bool { return false })
			at := s.at
			synctest.Wait()
			if s.at != at {
				t.Fatalf("%d steps read when the loop ended, %d behind it", at, s.at)
			}
		})
	}
}
