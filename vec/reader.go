package vec

import (
	"boathouse/api"
	"boathouse/bitpack"
	"boathouse/cell"
	"boathouse/varint"
)

const byteBits = 8

// reader reads a text part by part. As soon as a part is wrong or missing it is
// broken, and what it answered and answers counts for nothing.
type reader struct {
	s      string
	at     int
	broken bool
}

// hold breaks the reader unless a part is fine.
func (r *reader) hold(fine bool) {
	if !fine {
		r.broken = true
	}
}

// count answers the next number, if it is at most this one.
func (r *reader) count(most int) int {
	x, behind, e := varint.Get(r.s, r.at)
	if e != api.OK || x > most {
		r.broken = true
		return 0
	}
	r.at = behind
	return x
}

// value answers the next value, of a kind.
func (r *reader) value(kind int) api.Value {
	v, behind, found := cell.Get(kind, r.s, r.at)
	if !found {
		r.broken = true
		return api.Value{}
	}
	r.at = behind
	return v
}

// packed answers the next numbers, so many of so many bits each.
func (r *reader) packed(many int, width int) []int {
	behind := r.at + (many*width+byteBits-1)/byteBits
	if behind > len(r.s) {
		r.broken = true
		return nil
	}
	xs, e := bitpack.Unpack(r.s[r.at:behind], many, width)
	r.hold(e == api.OK)
	r.at = behind
	return xs
}
