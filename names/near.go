package names

import "sieve/api"

// Distance: how many bytes must be put in, taken out, replaced.
func Distance(a, b string) int {
	a, b = a[:min(len(a), api.MaxName)], b[:min(len(b), api.MaxName)]
	var row [api.MaxName + 1]int // row[j]: from what of a has been gone through to the first j bytes of b
	for j := range row[:len(b)+1] {
		row[j] = j
	}
	for i := range len(a) {
		corner := row[0] // what stood in the row above, one to the left
		row[0] = i + 1
		for j := range len(b) {
			replaced := corner
			if a[i] != b[j] {
				replaced++
			}
			corner = row[j+1]
			row[j+1] = min(replaced, corner+1, row[j]+1)
		}
	}
	return row[len(b)]
}

// Near: the nearest known name, and how far it is.
func Near(name string) (string, int) {
	name = Lower(name)
	nearest, least := "", api.MaxName+1 // further than any two texts are
	for _, known := range Known() {
		if d := Distance(name, known); d < least {
			nearest, least = known, d
		}
	}
	return nearest, least
}
