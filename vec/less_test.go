package vec_test

import (
	"bytes"
	"math"
	"slices"
	"strings"
	"testing"

	"boathouse/api"
	"boathouse/vec"
)

// asLess asks of two values whether the one stands ahead of the other, both ways.
func asLess(t *testing.T, a api.Value, b api.Value, ahead bool, behind bool) {
	t.Helper()
	if vec.Less(a, b) != ahead || vec.Less(b, a) != behind {
		t.Errorf("Less: %s: %v, %v", tell(values(a, b)), vec.Less(a, b), vec.Less(b, a))
	}
}

// ranked answers values of each kind in their order; texts of any bytes are in it.
func ranked() []api.Value {
	vs := append(ofEachKind(), texts("\x80", "\x80\x00", "\xc3", "\xc3\x28", "\xfe", "\xff", "\xff\x00", "\xff\xff", "\xff\xff\xff", strings.Repeat("\xff", api.MaxValue+1))...)
	from := slices.IndexFunc(vs, func(v api.Value) bool { return v.Kind == api.KindText })
	slices.SortFunc(vs[from:], func(a, b api.Value) int { return bytes.Compare([]byte(a.S), []byte(b.S)) })
	return vs
}

func TestLess(t *testing.T) {
	vs := ranked()
	for i, a := range vs {
		for k, b := range vs {
			asLess(t, a, b, i < k, i > k)
		}
	}
}

// What stands ahead of what, written by hand, one behind the other.
func TestLessByHand(t *testing.T) {
	row := values(
		null(), num(math.MinInt), num(-2), num(-1), num(0), num(1), num(2), num(math.MaxInt), truth(false), truth(true),
		text(""), text("\x00"), text("\x00\x00"), text("\x01"), text("10"), text("2"), text("A"), text("Z"), text("a"), text("a\x00"), text("a "), text("aa"), text("ab"), text("b"), text("z"), text("\x7f"), text("é"), text("\uffff"), text("\U00010000"), text("\xff"),
	)
	for i, a := range row {
		for k, b := range row {
			asLess(t, a, b, i < k, i > k)
		}
	}
}

// Fields that the kind doesn't name play no part.
func TestLessOfFieldsThatTheKindDoesNotName(t *testing.T) {
	few := values(null(), num(math.MinInt), num(-1), num(0), num(math.MaxInt), truth(false), truth(true), text(""), text("a"), text("ab"), text("\xff"))
	for i, v := range few {
		for k, w := range few {
			for _, a := range clothed(v) {
				for _, b := range clothed(w) {
					asLess(t, a, b, i < k, i > k)
				}
			}
		}
	}
}

// A kind that there is none of is null: ahead of all others, and one with null and its like.
func TestLessOfKindsThatThereAreNoneOf(t *testing.T) {
	odd := noKinds()
	for i, kind := range odd {
		v := api.Value{Kind: kind, I: i - 5, B: i%2 == 0, S: "a"}
		asLess(t, v, null(), false, false)
		asLess(t, v, v, false, false)
		asLess(t, v, api.Value{Kind: kind, I: 1 << 40, B: true, S: "b"}, false, false)
		asLess(t, v, api.Value{Kind: odd[(i*7+3)%len(odd)], I: -9, S: "\x00"}, false, false)
		for _, w := range ofEachKind()[1:] {
			asLess(t, v, w, true, false)
		}
	}
}

// Of numbers and texts that are rolled, as the library tells.
func TestLessOfRolledValues(t *testing.T) {
	r := rolls(5)
	for range 20000 {
		x, y := int(r.Uint64())>>r.IntN(64), int(r.Uint64())>>r.IntN(64)
		asLess(t, num(x), num(y), x < y, x > y)
		var a, b []byte
		for range r.IntN(6) {
			a = append(a, byte(r.IntN(256)>>r.IntN(8)))
		}
		b = append(b, a[:r.IntN(len(a)+1)]...)
		for range r.IntN(3) {
			b = append(b, byte(r.IntN(256)>>r.IntN(8)))
		}
		asLess(t, text(string(a)), text(string(b)), bytes.Compare(a, b) < 0, bytes.Compare(a, b) > 0)
	}
}

// Long texts, that are told apart at each place.
func TestLessOfLongTexts(t *testing.T) {
	for _, size := range []int{1, api.MaxValue, api.MaxText} {
		s := strings.Repeat("m", size)
		asLess(t, text(s), text(strings.Clone(s)), false, false)
		asLess(t, text(s), text(s+"\x00"), true, false)
		asLess(t, text(s[1:]), text(s), true, false)
		for _, at := range []int{0, size / 2, size - 1} {
			asLess(t, text(s), text(s[:at]+"n"+s[at+1:]), true, false)
			asLess(t, text(s), text(s[:at]+"l"+s[at+1:]), false, true)
		}
	}
}
