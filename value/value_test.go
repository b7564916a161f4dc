package value_test

import (
	"math"
	"strings"
	"testing"
	"unsafe"

	"boathouse/api"
	"boathouse/value"
)

// full answers a value of a kind with every field set.
func full(kind int) api.Value {
	return api.Value{Kind: kind, I: 7, B: true, S: "x"}
}

func TestOfEachKindItsFieldAlone(t *testing.T) {
	for _, c := range []struct{ v, want api.Value }{
		{api.Value{}, api.Value{}},
		{api.Value{Kind: api.KindInt}, api.Value{Kind: api.KindInt}},
		{api.Value{Kind: api.KindBool}, api.Value{Kind: api.KindBool}},
		{api.Value{Kind: api.KindText}, api.Value{Kind: api.KindText}},
		{full(api.KindNull), api.Value{}},
		{full(api.KindInt), api.Value{Kind: api.KindInt, I: 7}},
		{full(api.KindBool), api.Value{Kind: api.KindBool, B: true}},
		{full(api.KindText), api.Value{Kind: api.KindText, S: "x"}},
		{api.Value{Kind: api.KindInt, I: math.MinInt}, api.Value{Kind: api.KindInt, I: math.MinInt}},
		{api.Value{Kind: api.KindInt, B: true, S: "x"}, api.Value{Kind: api.KindInt}},
		{api.Value{Kind: api.KindBool, I: 7, S: "x"}, api.Value{Kind: api.KindBool}},
		{api.Value{Kind: api.KindText, I: 7, B: true}, api.Value{Kind: api.KindText}},
		{api.Value{Kind: api.KindText, S: "\xff\x00"}, api.Value{Kind: api.KindText, S: "\xff\x00"}},
	} {
		if got := value.Plain(c.v); got != c.want {
			t.Errorf("Plain(%v): %v, not %v", c.v, got, c.want)
		}
		if got := value.Copy(c.v); got != c.want {
			t.Errorf("Copy(%v): %v, not %v", c.v, got, c.want)
		}
		if got := value.IsNull(c.v); got != (c.want.Kind == api.KindNull) {
			t.Errorf("IsNull(%v): %v", c.v, got)
		}
	}
}

func TestOfNoKindNull(t *testing.T) {
	for _, kind := range []int{-1, -2, -3, 4, 5, 9, 255, 256, 257, 258, 259, 1 << 32, 1<<32 + 1, 1<<32 + 3, math.MaxInt, math.MinInt, math.MinInt + 1} {
		if got := value.Plain(full(kind)); got != (api.Value{}) {
			t.Errorf("Plain of kind %d: %v", kind, got)
		}
		if got := value.Copy(full(kind)); got != (api.Value{}) {
			t.Errorf("Copy of kind %d: %v", kind, got)
		}
		if !value.IsNull(full(kind)) {
			t.Errorf("IsNull of kind %d: false", kind)
		}
		if value.IsKind(kind) {
			t.Errorf("IsKind(%d): true", kind)
		}
	}
}

func TestKindsOfColumns(t *testing.T) {
	for kind, want := range map[int]bool{api.KindNull: false, api.KindInt: true, api.KindBool: true, api.KindText: true} {
		if got := value.IsKind(kind); got != want {
			t.Errorf("IsKind(%d): %v", kind, got)
		}
	}
}

// A column holds values of its kind and nulls, of a kind that there is none of too, whatever else they hold.
func TestValuesOfColumns(t *testing.T) {
	kinds := []int{api.KindInt, api.KindBool, api.KindText}
	for _, kind := range append(kinds, api.KindNull, 4, -1, 255, 1<<32+1) {
		for _, own := range append(kinds, api.KindNull) {
			if got, want := value.IsOf(full(own), kind), own == kind || own == api.KindNull; got != want {
				t.Errorf("IsOf(kind %d, %d): %v", own, kind, got)
			}
		}
		for _, own := range []int{-1, 4, 9, 255, 257, 258, 259, 1<<32 + 1, math.MaxInt, math.MinInt, math.MinInt + 1} {
			if !value.IsOf(full(own), kind) {
				t.Errorf("IsOf(kind %d, %d): false", own, kind)
			}
		}
	}
}

func TestACopysTextIsItsOwn(t *testing.T) {
	for _, s := range []string{"a", "ab\x00", strings.Repeat("x", api.MaxText)} {
		held := []byte(s)
		v := value.Copy(api.Value{Kind: api.KindText, S: unsafe.String(&held[0], len(held))})
		held[0] ^= 0xff
		if v.S != s {
			t.Errorf("a text of %d bytes is shared", len(s))
		}
	}
}
