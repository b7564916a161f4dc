package parts_test

import (
	"math"
	"slices"
	"strings"
	"testing"

	"boathouse/api"
	"boathouse/parts"
)

func TestCount(t *testing.T) {
	for _, c := range []struct {
		many int
		s    string
	}{{0, "\x00"}, {1, "\x01"}, {127, "\x7f"}, {128, "\x80\x01"}, {300, "\xac\x02"}, {math.MaxInt, "\xff\xff\xff\xff\xff\xff\xff\xff\x7f"}} {
		if s := parts.Count(c.many); s != c.s {
			t.Errorf("Count(%d): %q, not %q", c.many, s, c.s)
		}
		if x := parts.New(c.s).Count(c.many); x != c.many {
			t.Errorf("Count(%d) of %q: %d", c.many, c.s, x)
		}
	}
}

// All kinds of parts, one behind the other, up to the text's end.
func TestPartsInTheirRow(t *testing.T) {
	r := parts.New("\xac\x02" + "K" + "abc" + "\x05" + "\x02hi" + "\x01" + "\x8d\x01" + "" + "\x07")
	if x := r.Count(300); x != 300 {
		t.Errorf("Count: %d", x)
	}
	if b := r.Byte(); b != 'K' {
		t.Errorf("Byte: %d", b)
	}
	if s := r.Piece(0) + r.Piece(3); s != "abc" {
		t.Errorf("Piece: %q", s)
	}
	for _, want := range []api.Value{{Kind: api.KindInt, I: -3}, {Kind: api.KindText, S: "hi"}, {Kind: api.KindBool, B: true}} {
		if v := r.Value(want.Kind); v != want {
			t.Errorf("Value: %v, not %v", v, want)
		}
	}
	if xs := r.Packed(9, 1); !slices.Equal(xs, []int{1, 0, 1, 1, 0, 0, 0, 1, 1}) {
		t.Errorf("Packed: %v", xs)
	}
	if xs := r.Packed(40, 0); len(xs) != 40 {
		t.Errorf("Packed: %v", xs)
	}
	r.Hold(true)
	if b := r.Byte(); b != 7 || r.Broken() {
		t.Errorf("Byte: %d, %t", b, r.Broken())
	}
	if r.Byte(); !r.Broken() {
		t.Error("a byte behind the end")
	}
}

// Each part that is wrong or missing breaks the reader, and a broken one stays so.
func TestBroken(t *testing.T) {
	for _, c := range []struct {
		why string
		s   string
		ask func(r *parts.Reader)
	}{
		{"no number", "", func(r *parts.Reader) { r.Count(9) }},
		{"a number that is cut short", "\x80", func(r *parts.Reader) { r.Count(9) }},
		{"a number in more bytes than it needs", "\x85\x00", func(r *parts.Reader) { r.Count(9) }},
		{"a number above the most", "\x0a", func(r *parts.Reader) { r.Count(9) }},
		{"no byte", "", func(r *parts.Reader) { r.Byte() }},
		{"a piece that is longer than what is left", "ab", func(r *parts.Reader) { r.Piece(3) }},
		{"a piece behind the end", "ab", func(r *parts.Reader) { r.Piece(2); r.Piece(1) }},
		{"a piece whose end is no int", "ab", func(r *parts.Reader) { r.Piece(1); r.Piece(math.MaxInt) }},
		{"a piece of less than nothing", "ab", func(r *parts.Reader) { r.Piece(1); r.Piece(-1) }},
		{"no value", "", func(r *parts.Reader) { r.Value(api.KindInt) }},
		{"a truth that is none", "\x02", func(r *parts.Reader) { r.Value(api.KindBool) }},
		{"a text that is cut short", "\x03ab", func(r *parts.Reader) { r.Value(api.KindText) }},
		{"a value of no kind", "\x00", func(r *parts.Reader) { r.Value(api.KindNull) }},
		{"too few bytes of packed numbers", "\xff", func(r *parts.Reader) { r.Packed(9, 1) }},
		{"a bit behind packed numbers", "\x02", func(r *parts.Reader) { r.Packed(1, 1) }},
		{"less than no packed numbers", "\xff", func(r *parts.Reader) { r.Packed(-1, 1) }},
		{"packed numbers of too many bits", "\xff\xff\xff", func(r *parts.Reader) { r.Packed(1, api.MaxWidth+1) }},
		{"packed numbers whose bits are no int", strings.Repeat("\xff", 9), func(r *parts.Reader) { r.Packed(math.MaxInt, 16) }},
		{"what is not held", "ab", func(r *parts.Reader) { r.Hold(false) }},
	} {
		r := parts.New(c.s)
		if r.Broken() {
			t.Errorf("%s: broken ahead of it", c.why)
		}
		c.ask(r)
		r.Hold(true)
		r.Piece(0)
		if !r.Broken() {
			t.Errorf("%s: not broken", c.why)
		}
	}
}

// A part that isn't there leaves the reader where it stands, so that what follows is not read from behind the end.
func TestBrokenStands(t *testing.T) {
	r := parts.New("\x03ab")
	r.Count(2)
	r.Piece(4)
	r.Value(api.KindText)
	if s := r.Piece(3); s != "\x03ab" || !r.Broken() {
		t.Errorf("%q, %t", s, r.Broken())
	}
}
