package vec

import (
	"strings"

	"boathouse/api"
	"boathouse/bitpack"
	"boathouse/cell"
	"boathouse/parts"
	"boathouse/runs"
	"boathouse/words"
)

// truthBits is how many bits a truth has where truths are packed.
const truthBits = 1

// encoding is one way to write values that are not null, and to read so many of them again.
type encoding struct {
	put func(vs []api.Value) string
	get func(r *parts.Reader, many int) []api.Value
}

// encodings answers the ways to write a kind's values, each at its number's place: here alone they are told apart.
func encodings(kind int) []encoding {
	one := func(r *parts.Reader) api.Value { return r.Value(kind) }
	ways := []encoding{
		api.EncPlain: {putEach, func(r *parts.Reader, many int) []api.Value { return each(r, many, one) }},
		api.EncRuns:  {putRuns, func(r *parts.Reader, many int) []api.Value { return getRuns(r, many, one) }},
		api.EncWords: {putWords, func(r *parts.Reader, many int) []api.Value { return getWords(r, many, one) }},
	}
	if kind == api.KindBool {
		ways[api.EncPlain] = encoding{putTruths, getTruths}
	}
	return ways
}

// shortest answers the encoding that writes the values in the fewest bytes, of like ones the lowest, and these bytes.
func shortest(kind int, vs []api.Value) (int, string) {
	least, bytes := 0, ""
	for number, way := range encodings(kind) {
		s := way.put(vs)
		if number == 0 || len(s) < len(bytes) {
			least, bytes = number, s
		}
	}
	return least, bytes
}

// putEach answers the values' bytes, one's behind the other's.
func putEach(vs []api.Value) string {
	var s strings.Builder
	for _, v := range vs {
		s.WriteString(cell.Put(v))
	}
	return s.String()
}

// each answers so many values, read one behind the other.
func each(r *parts.Reader, many int, one func(r *parts.Reader) api.Value) []api.Value {
	var vs []api.Value
	// A broken reader stands still: it would look for each value that is missing at the same place.
	for len(vs) < many && !r.Broken() {
		vs = append(vs, one(r))
	}
	return vs
}

// putTruths answers truths' bits.
func putTruths(vs []api.Value) string {
	bits := make([]int, len(vs))
	for i, v := range vs {
		if v.B {
			bits[i] = 1
		}
	}
	return packed(bits, truthBits)
}

// getTruths answers so many truths.
func getTruths(r *parts.Reader, many int) []api.Value {
	var vs []api.Value
	for _, bit := range r.Packed(many, truthBits) {
		vs = append(vs, api.Value{Kind: api.KindBool, B: bit == 1})
	}
	return vs
}

// putRuns answers how many runs there are, and each one's number and value.
func putRuns(vs []api.Value) string {
	many, values := runs.Cut(vs)
	var s strings.Builder
	s.WriteString(parts.Count(len(many)))
	for i, v := range values {
		s.WriteString(parts.Count(many[i]))
		s.WriteString(cell.Put(v))
	}
	return s.String()
}

// getRuns answers the values of runs that come to so many.
func getRuns(r *parts.Reader, many int, one func(r *parts.Reader) api.Value) []api.Value {
	var lengths []int
	numbered := func(r *parts.Reader) api.Value {
		lengths = append(lengths, r.Count(many))
		return one(r)
	}
	values := each(r, r.Count(many), numbered)
	vs, e := runs.Join(lengths, values)
	r.Hold(e == api.OK && len(vs) == many)
	return vs
}

// putWords answers how many words there are, each one's value, and the places.
// A column's words are at most as many as its values, MaxTable: so places always
// are numbers that layer 6 takes, and the 65536 words beyond which this way is
// left out are never met.
func putWords(vs []api.Value) string {
	ws, at := words.Build(vs)
	return parts.Count(len(ws)) + putEach(ws) + packed(at, placeBits(ws))
}

// getWords answers the words at so many places.
func getWords(r *parts.Reader, many int, one func(r *parts.Reader) api.Value) []api.Value {
	ws := each(r, r.Count(many), one)
	vs, e := words.Look(ws, r.Packed(many, placeBits(ws)))
	r.Hold(e == api.OK)
	return vs
}

// placeBits answers how many bits a place among words has.
func placeBits(ws []api.Value) int {
	return bitpack.Width(len(ws) - 1)
}
