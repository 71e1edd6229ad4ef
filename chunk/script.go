// Package chunk is layer 2: a source of bytes that follows a script, and a pull buffer over it. See shared/doc/02-chunk.md.
package chunk

import (
	"bytes"

	"sieve/api"
)

// Bytes: a script's bytes, and whether it fails.
func Bytes(l []api.Step) ([]byte, bool) {
	var all []byte
	for _, step := range l {
		all = append(all, step.Data...)
		if step.Fail {
			return all, true
		}
	}
	return all, false
}

// Same: do two scripts have the same bytes, and both fail, or neither?
func Same(a, b []api.Step) bool {
	ofA, failsA := Bytes(a)
	ofB, failsB := Bytes(b)
	return failsA == failsB && bytes.Equal(ofA, ofB)
}

// Cut: data parted at the cuts.
func Cut(data []byte, cuts []int, fail bool) []api.Step {
	l := make([]api.Step, 0, len(cuts)+1)
	from := 0
	for _, cut := range cuts {
		to := min(max(cut, from), len(data))
		l = append(l, api.Step{Data: bytes.Clone(data[from:to])})
		from = to
	}
	return append(l, api.Step{Data: bytes.Clone(data[from:]), Fail: fail})
}

// large: has it too many steps, or too many bytes? Steps that are never read count, too.
func large(l []api.Step) bool {
	if len(l) > api.MaxSteps {
		return true
	}
	room := api.MaxInput
	for _, step := range l {
		if len(step.Data) > room {
			return true
		}
		room -= len(step.Data)
	}
	return false
}

// reached: a copy of the steps that reads can reach: none behind one that fails.
func reached(l []api.Step) []api.Step {
	var out []api.Step
	for _, step := range l {
		out = append(out, api.Step{Data: bytes.Clone(step.Data), Fail: step.Fail})
		if step.Fail {
			break
		}
	}
	return out
}
