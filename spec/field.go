package spec

import (
	"math"

	"boathouse/api"
	"boathouse/cell"
	"boathouse/crc"
	"boathouse/utf"
	"boathouse/value"
)

// mostParam is how great the Param of a field that has one may be.
const mostParam = 1024

// numberBytes is how many bytes of a number are summed, and byteBits how many bits each has.
const (
	numberBytes = 8
	byteBits    = 8
)

// Apply answers what a field makes of a value.
func Apply(f api.Field, v api.Value) (api.Value, api.Errno) {
	if !takes(f, v.Kind) {
		return api.Value{}, api.ErrSpecForm
	}
	return value.Copy(made(f, v)), api.OK
}

// takes tells whether a field may be, and be applied to values of a kind; to null each that may be is.
func takes(f api.Field, kind int) bool {
	switch f.Trans {
	case api.TransIdentity:
		return f.Param == 0
	case api.TransBucket:
		return isParam(f.Param)
	case api.TransTruncate:
		return isParam(f.Param) && kind != api.KindBool
	}
	return false
}

// isParam tells whether a field that has a Param may have this one.
func isParam(x int) bool {
	return x >= 1 && x <= mostParam
}

// made answers what Apply does of a value that the field takes, but its text lies in the value's memory.
func made(f api.Field, v api.Value) api.Value {
	v = value.Plain(v)
	switch {
	case value.IsNull(v) || f.Trans == api.TransIdentity:
		return v
	case f.Trans == api.TransBucket:
		return api.Value{Kind: api.KindInt, I: crc.Of(bytesOf(v)) % f.Param}
	case v.Kind == api.KindText:
		return api.Value{Kind: api.KindText, S: cut(v.S, f.Param)}
	}
	return api.Value{Kind: api.KindInt, I: floor(v.I, f.Param)}
}

// bytesOf answers the bytes of a value that are summed.
func bytesOf(v api.Value) string {
	switch v.Kind {
	case api.KindInt:
		return fixed(v.I)
	case api.KindText:
		return v.S
	}
	// A truth has one byte here as it has in files.
	return cell.Put(v)
}

// fixed answers a number's bytes, the highest first: as many for each, unlike those that files hold.
func fixed(x int) string {
	var form [numberBytes]byte
	for i := numberBytes - 1; i >= 0; i-- {
		form[i] = byte(x)
		x >>= byteBits
	}
	return string(form[:])
}

// floor answers the greatest multiple of a step that is not above a number, or the least number where the multiple would be below that.
func floor(x int, step int) int {
	rest := x % step
	if rest < 0 {
		rest += step
	}
	// The difference could be no int, so it isn't made ahead of this question.
	if x < math.MinInt+rest {
		return math.MinInt
	}
	return x - rest
}

// cut answers a text's first runes, so many or all; a byte that begins none counts as one.
func cut(s string, many int) string {
	end := 0
	for range many {
		if end == len(s) {
			break
		}
		_, size := utf.Rune(s, end)
		end += max(size, 1)
	}
	return s[:end]
}
