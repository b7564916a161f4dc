// Package cell writes one value that is not null as bytes, and reads it again: see DOC.md, chapter 9.
package cell

import (
	"strings"

	"boathouse/api"
	"boathouse/varint"
)

// A truth's bytes.
const (
	no  = "\x00"
	yes = "\x01"
)

// Put answers a value's bytes; null has none.
func Put(v api.Value) string {
	switch v.Kind {
	case api.KindInt:
		return varint.Zig(v.I)
	case api.KindBool:
		if v.B {
			return yes
		}
		return no
	case api.KindText:
		return size(v.S) + v.S
	}
	return ""
}

// Get answers the value of a kind whose bytes begin at a place, and the place
// behind them; false: none's do. Whoever asks holds texts against limits: here
// they are of any length and any bytes.
func Get(kind int, s string, at int) (api.Value, int, bool) {
	switch kind {
	case api.KindInt:
		return number(s, at)
	case api.KindBool:
		return truth(s, at)
	case api.KindText:
		return text(s, at)
	}
	return api.Value{}, 0, false
}

// size answers the bytes of a text's length.
func size(s string) string {
	// No length is below 0, so none is refused.
	parts, _ := varint.Put(len(s))
	return parts
}

// number answers the number that is read at a place.
func number(s string, at int) (api.Value, int, bool) {
	x, behind, e := varint.Zag(s, at)
	if e != api.OK {
		return api.Value{}, 0, false
	}
	return api.Value{Kind: api.KindInt, I: x}, behind, true
}

// truth answers the truth that is read at a place.
func truth(s string, at int) (api.Value, int, bool) {
	if at < 0 || at >= len(s) {
		return api.Value{}, 0, false
	}
	b := s[at : at+1]
	if b != no && b != yes {
		return api.Value{}, 0, false
	}
	return api.Value{Kind: api.KindBool, B: b == yes}, at + 1, true
}

// text answers the text that is read at a place.
func text(s string, at int) (api.Value, int, bool) {
	length, from, e := varint.Get(s, at)
	// The length is held against what is left: the place behind it could be no int.
	if e != api.OK || length > len(s)-from {
		return api.Value{}, 0, false
	}
	behind := from + length
	// A piece of s would lie in the argument's memory.
	return api.Value{Kind: api.KindText, S: strings.Clone(s[from:behind])}, behind, true
}
