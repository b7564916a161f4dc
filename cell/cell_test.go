package cell_test

import (
	"encoding/binary"
	"math"
	"math/rand/v2"
	"strconv"
	"strings"
	"testing"
	"unsafe"

	"boathouse/api"
	"boathouse/cell"
)

// num, truth, text answer values with their kind's field alone.
func num(x int) api.Value     { return api.Value{Kind: api.KindInt, I: x} }
func truth(b bool) api.Value  { return api.Value{Kind: api.KindBool, B: b} }
func text(s string) api.Value { return api.Value{Kind: api.KindText, S: s} }

// known is a value and its bytes, written by hand.
type known struct {
	v api.Value
	s string
}

// byHand are values of each kind.
func byHand() []known {
	return []known{
		{num(0), "\x00"}, {num(-1), "\x01"}, {num(1), "\x02"}, {num(63), "\x7e"}, {num(-64), "\x7f"}, {num(64), "\x80\x01"}, {num(-65), "\x81\x01"},
		{num(math.MaxInt), "\xfe\xff\xff\xff\xff\xff\xff\xff\xff\x01"}, {num(math.MinInt), "\xff\xff\xff\xff\xff\xff\xff\xff\xff\x01"},
		{truth(false), "\x00"}, {truth(true), "\x01"},
		{text(""), "\x00"}, {text("a"), "\x01a"}, {text("\x00"), "\x01\x00"}, {text("é日"), "\x05\xc3\xa9\xe6\x97\xa5"}, {text("\xff\x80"), "\x02\xff\x80"},
		{text(strings.Repeat("x", 127)), "\x7f" + strings.Repeat("x", 127)}, {text(strings.Repeat("x", 128)), "\x80\x01" + strings.Repeat("x", 128)},
		{text(strings.Repeat("x", api.MaxText)), "\x80\x80\x04" + strings.Repeat("x", api.MaxText)},
	}
}

// short cuts what a fault tells.
func short(s string) string {
	return strconv.Itoa(len(s)) + " bytes: " + strconv.QuoteToASCII(s[:min(len(s), 30)])
}

// gets asks for a value at a place, and for the place behind.
func gets(t *testing.T, kind int, s string, at int, v api.Value, behind int) {
	t.Helper()
	if got, place, found := cell.Get(kind, s, at); got != v || place != behind || !found {
		t.Errorf("Get(%d, %s, %d): %s, %d, %v", kind, short(s), at, short(got.S), place, found)
	}
}

// misses asks for false, and for nothing beside it.
func misses(t *testing.T, kind int, s string, at int) {
	t.Helper()
	if got, place, found := cell.Get(kind, s, at); got != (api.Value{}) || place != 0 || found {
		t.Errorf("Get(%d, %s, %d): %v, %d, %v", kind, short(s), at, got.Kind, place, found)
	}
}

func TestByHand(t *testing.T) {
	for _, k := range byHand() {
		if got := cell.Put(k.v); got != k.s {
			t.Errorf("Put: %s, not %s", short(got), short(k.s))
		}
		for _, ahead := range []string{"", "\x00", "\x80", "abc"} {
			for _, behind := range []string{"", "\x00", "\xff", "abc"} {
				gets(t, k.v.Kind, ahead+k.s+behind, len(ahead), k.v, len(ahead+k.s))
			}
			for at := range min(len(k.s), 300) {
				misses(t, k.v.Kind, ahead+k.s[:at], len(ahead))
			}
		}
	}
}

// Fields that the kind doesn't name play no part; what is null has no bytes.
func TestWhatCounts(t *testing.T) {
	for _, k := range byHand() {
		v := api.Value{Kind: k.v.Kind, I: 77, B: true, S: "other"}
		switch v.Kind {
		case api.KindInt:
			v.I = k.v.I
		case api.KindBool:
			v.B = k.v.B
		case api.KindText:
			v.S = k.v.S
		}
		if got := cell.Put(v); got != k.s {
			t.Errorf("Put: %s, not %s", short(got), short(k.s))
		}
	}
	for _, kind := range []int{0, 4, 5, -1, 255, 257, 1<<32 + 1, math.MinInt, math.MaxInt} {
		if got := cell.Put(api.Value{Kind: kind, I: 1, B: true, S: "a"}); got != "" {
			t.Errorf("Put of kind %d: %s", kind, short(got))
		}
		for _, s := range []string{"", "\x00", "\x01a"} {
			for at := -1; at <= len(s); at++ {
				misses(t, kind, s, at)
			}
		}
	}
}

func TestRolledNumbers(t *testing.T) {
	r := rand.New(rand.NewPCG(1, 10))
	for range 50000 {
		x := int(r.Uint64()) >> r.IntN(64)
		want := string(binary.AppendVarint(nil, int64(x)))
		if got := cell.Put(num(x)); got != want {
			t.Errorf("Put(%d): %s", x, short(got))
		}
		gets(t, api.KindInt, want, 0, num(x), len(want))
	}
}

func TestWrongBytes(t *testing.T) {
	for b := range 256 {
		s := string([]byte{byte(b)})
		if b > 1 {
			misses(t, api.KindBool, s, 0)
			misses(t, api.KindBool, "\x01"+s, 1)
		}
	}
	for _, s := range []string{"\x80", "\x80\x00", "\x82\x00", "\xff\xff\xff\xff\xff\xff\xff\xff\xff\x02", "\x80\x80\x80\x80\x80\x80\x80\x80\x80\x80\x01"} {
		misses(t, api.KindInt, s, 0)
		misses(t, api.KindInt, "\x00"+s, 1)
	}
	for _, s := range []string{"\x80", "\x81\x00a", "\x01", "\x03ab", "\x80\x01" + strings.Repeat("x", 127), "\xff\xff\xff\xff\xff\xff\xff\xff\x7fab", "\xfe\xff\xff\xff\xff\xff\xff\xff\x7fab", "\xff\xff\xff\xff\xff\xff\xff\xff\xff\x01ab"} {
		misses(t, api.KindText, s, 0)
		misses(t, api.KindText, "\x00"+s, 1)
	}
}

func TestPlacesOutside(t *testing.T) {
	for _, s := range []string{"", "\x00", "\x01\x00", "\x00\x00\x00"} {
		for _, kind := range []int{api.KindInt, api.KindBool, api.KindText} {
			for _, at := range []int{-1, -2, len(s), len(s) + 1, len(s) + 100, 1 << 32, math.MinInt, math.MaxInt} {
				misses(t, kind, s, at)
			}
		}
	}
}

// A text that is read lies in memory of its own.
func TestATextIsItsOwn(t *testing.T) {
	for _, s := range []string{"a", "abc", strings.Repeat("x", 300)} {
		held := []byte(cell.Put(text(s)))
		v, _, _ := cell.Get(api.KindText, unsafe.String(&held[0], len(held)), 0)
		for i := range held {
			held[i] ^= 0xff
		}
		if v.S != s {
			t.Errorf("a text of %d bytes is shared", len(s))
		}
	}
}
