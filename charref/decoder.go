package charref

import (
	"strconv"
	"strings"

	"sieve/api"
	"sieve/utf"
)

// Decoder decodes a text that comes in pieces.
type Decoder struct {
	made bool
	over bool
	attr bool
	rest []rune // from the & on of which it is not sure what it is; never changed in place, as copies of a decoder share it
	held int    // how many bytes were fed for that rest
}

// New: one that has been fed nothing.
func New(attr bool) *Decoder { return &Decoder{made: true, attr: attr} }

// Feed: what is sure now.
func (d *Decoder) Feed(s string) (string, api.Errno) {
	if e := d.state(); e != api.OK {
		return "", e
	}
	return d.tell(utf.Mend(s), false), api.OK
}

// End: what is left.
func (d *Decoder) End() (string, api.Errno) {
	if e := d.state(); e != api.OK {
		return "", e
	}
	d.over = true
	return d.tell("", true), api.OK
}

// Held: how many bytes have not been told of.
func (d *Decoder) Held() int {
	if d == nil {
		return 0
	}
	return d.held
}

// state: may it be fed and ended?
func (d *Decoder) state() api.Errno {
	switch {
	case d == nil || !d.made:
		return api.ErrMade
	case d.over:
		return api.ErrOver
	}
	return api.OK
}

// tell: what is sure of the rest with more behind it; what is not stays as the rest.
func (d *Decoder) tell(more string, end bool) string {
	text := string(d.rest) + more
	out, to := decode(text, d.attr, end, func(says string) string { return says })
	if to == 0 {
		d.held += len(more)
	} else { // the rest has no & but its first rune: it has been told of, whole
		d.held = len(text) - to
	}
	d.rest = nil
	for _, r := range short(text[to:]) {
		d.rest = append(d.rest, r)
	}
	return out
}

// short: a rest that goes on as the given one does, with no more digits than its number needs: however many of them
// come, few are kept, and few are gone through again with each piece.
func short(rest string) string {
	if !strings.HasPrefix(rest, "&#") {
		return rest
	}
	n := scan(rest[1:], 0)
	if n.to == n.from {
		return rest
	}
	return rest[:1+n.from] + strconv.FormatInt(int64(n.value), n.base)
}
