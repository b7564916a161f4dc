// Package parts reads a text part by part, as layers write them one behind the other: see DOC.md, chapters 9 and 11.
package parts

import (
	"boathouse/api"
	"boathouse/bitpack"
	"boathouse/cell"
	"boathouse/varint"
)

const byteBits = 8

// Count answers the bytes of how many there are of something, or of another
// number from 0 on; of none below 0, which layers hold off ahead of it.
func Count(many int) string {
	s, _ := varint.Put(many)
	return s
}

// Reader reads a text's parts. As soon as one is wrong or missing it is broken,
// and what it answered and answers counts for nothing.
type Reader struct {
	s      string
	at     int
	broken bool
}

// New answers a reader that stands at a text's beginning.
func New(s string) *Reader {
	return &Reader{s: s}
}

// Broken tells whether a part was wrong or missing.
func (r *Reader) Broken() bool {
	return r.broken
}

// Hold breaks the reader unless a part is fine.
func (r *Reader) Hold(fine bool) {
	if !fine {
		r.broken = true
	}
}

// Count answers the next number, if it is at most this one.
func (r *Reader) Count(most int) int {
	x, behind, e := varint.Get(r.s, r.at)
	if e != api.OK || x > most {
		r.broken = true
		return 0
	}
	r.at = behind
	return x
}

// Byte answers the next byte.
func (r *Reader) Byte() int {
	s := r.Piece(1)
	if s == "" {
		return 0
	}
	return int(s[0])
}

// Piece answers the next bytes, so many; they lie in the text's memory.
func (r *Reader) Piece(many int) string {
	// What is left is asked, as the place behind the piece could be no int.
	if many < 0 || many > len(r.s)-r.at {
		r.broken = true
		return ""
	}
	from := r.at
	r.at += many
	return r.s[from:r.at]
}

// Value answers the next value, of a kind.
func (r *Reader) Value(kind int) api.Value {
	v, behind, found := cell.Get(kind, r.s, r.at)
	if !found {
		r.broken = true
		return api.Value{}
	}
	r.at = behind
	return v
}

// Packed answers the next numbers, so many of so many bits each.
func (r *Reader) Packed(many int, width int) []int {
	xs, e := bitpack.Unpack(r.Piece((many*width+byteBits-1)/byteBits), many, width)
	r.Hold(e == api.OK)
	return xs
}
