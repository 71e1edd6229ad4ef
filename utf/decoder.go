package utf

import "sieve/api"

// Decoder decodes bytes that come in pieces.
type Decoder struct {
	made  bool
	over  bool
	held  [3]byte // an array, so that a copy of a decoder shares nothing with it
	count int     // of the bytes held
}

// New: one that has been fed nothing.
func New() *Decoder { return &Decoder{made: true} }

// Feed: the runes that are sure.
func (d *Decoder) Feed(b []byte) ([]rune, api.Errno) {
	if e := d.state(); e != api.OK {
		return nil, e
	}
	all := make([]byte, 0, d.count+len(b))
	all = append(append(all, d.held[:d.count]...), b...)
	sure := len(all) - Tail(all)
	d.count = copy(d.held[:], all[sure:])
	return Runes(all[:sure]), api.OK
}

// End: what is left.
func (d *Decoder) End() ([]rune, api.Errno) {
	if e := d.state(); e != api.OK {
		return nil, e
	}
	left := Runes(d.held[:d.count])
	d.over = true
	d.count = 0
	return left, api.OK
}

// Held: how many bytes are held back.
func (d *Decoder) Held() int {
	if d == nil {
		return 0
	}
	return d.count
}

// state: may it be fed and ended?
func (d *Decoder) state() api.Errno {
	switch {
	case d == nil || !d.made:
		return api.ErrMade
	case d.over:
		return api.ErrOver
	}
	return api.OK
}
