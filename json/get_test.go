package json_test

import (
	"math"
	"slices"
	"strings"
	"testing"

	"boathouse/api"
	"boathouse/json"
)

// gets asks for an object's value of a key.
func gets(t *testing.T, j api.Json, key string, want api.Json) {
	t.Helper()
	if x, is := json.Get(j, key); !is || !same(x, want) {
		t.Errorf("Get(%s): %v, %v, not %v", short(key), x, is, want)
	}
}

// lacks asks for nothing.
func lacks(t *testing.T, j api.Json, key string) {
	t.Helper()
	if x, is := json.Get(j, key); is || !same(x, api.Json{}) {
		t.Errorf("Get(%s): %v, %v", short(key), x, is)
	}
}

// P3.2 Get

func TestGet(t *testing.T) {
	inner := object(keys("a", "z"), num(9), list(num(1), text("y")))
	o := object(keys("a", "b", "", "é", "\x00", "o"), num(1), list(null(), truth(true)), text("x"), null(), truth(false), inner)
	gets(t, o, "a", num(1))
	gets(t, o, "b", list(null(), truth(true)))
	gets(t, o, "", text("x"))
	gets(t, o, "é", null())
	gets(t, o, "\x00", truth(false))
	gets(t, o, "o", inner)
	gets(t, inner, "a", num(9))
	for _, key := range []string{"c", "A", "a ", "aa", "z", "\xc3", "1", `"a"`, strings.Repeat("a", api.MaxText)} {
		lacks(t, o, key)
	}
	lacks(t, object(nil), "")
	lacks(t, object(nil), "a")
}

func TestGetOfNoObject(t *testing.T) {
	for _, kind := range []int{api.JsonNull, api.JsonBool, api.JsonInt, api.JsonText, api.JsonList, -1, 6, 99, math.MaxInt, math.MinInt} {
		lacks(t, api.Json{Kind: kind, B: true, N: 1, S: "a", Keys: keys("a"), L: []api.Json{num(1)}}, "a")
	}
	lacks(t, api.Json{}, "")
}

// Keys and L count as far as both go, and of keys that are alike the first.
func TestGetOfKeysAtFault(t *testing.T) {
	o := object(keys("a", "b", "c"), num(1), num(2))
	gets(t, o, "a", num(1))
	gets(t, o, "b", num(2))
	lacks(t, o, "c")
	o = object(keys("a"), num(1), num(2))
	gets(t, o, "a", num(1))
	lacks(t, o, "b")
	lacks(t, o, "")
	lacks(t, object(keys("a")), "a")
	lacks(t, object(nil, num(1)), "")
	gets(t, object(keys("b", "a", "a", "a"), num(1), num(2), num(3), num(4)), "a", num(2))
	gets(t, object(keys("b", "a", "a"), num(1), num(2)), "a", num(2))
	lacks(t, object(keys("b", "a"), num(1)), "a")
	gets(t, object(keys("\xff", "a"), num(1), num(2)), "\xff", num(1))
	// What lies in spare room is none.
	spare := object(keys("a", "b")[:1], []api.Json{num(1), num(2)}...)
	lacks(t, spare, "b")
	spare.Keys, spare.L = spare.Keys[:2], spare.L[:1]
	lacks(t, spare, "b")
}

// A value is answered as it stands, at fault or not, with what its Kind does not use.
func TestGetOfValuesAsTheyStand(t *testing.T) {
	full := api.Json{Kind: api.JsonInt, B: true, N: 7, S: "\xff", L: []api.Json{{Kind: 99, N: 3}, list(num(1))}, Keys: keys("x", "x", "\xff")}
	for _, kind := range []int{0, 1, 2, 3, 4, 5, 6, -1, math.MinInt} {
		full.Kind = kind
		gets(t, object(keys("a"), full), "a", full)
		gets(t, object(keys("a"), list(full, object(keys("b", "b"), full))), "a", list(full, object(keys("b", "b"), full)))
	}
	gets(t, object(keys("a"), nested(100, full)), "a", nested(100, full))
	gets(t, object(keys("a"), sized(3*api.MaxText)), "a", sized(3*api.MaxText))
	gets(t, object(keys("a"), nested(60000, num(1))), "a", nested(60000, num(1)))
	many := list(slices.Repeat([]api.Json{full}, api.MaxText)...)
	gets(t, object(keys("a"), many), "a", many)
}

// Values whose copy no memory holds: Get ends.
func TestGetEnds(t *testing.T) {
	wide := num(1)
	for range api.MaxDepth {
		wide = list(wide, wide, wide, wide, wide, wide, wide, wide)
	}
	l := make([]api.Json, 2)
	l[0] = list(l...)
	l[1] = object(keys("a", "b"), l...)
	names := slices.Repeat(keys("k"), 1<<20)
	named := object(names)
	for range 8 {
		named = object(names, named, named, named, named)
	}
	chain := null()
	for range 1 << 20 {
		chain = list(chain)
	}
	o := object(keys("wide", "list", "object", "named", "chain", "fine"), wide, l[0], l[1], named, chain, num(1))
	for _, key := range o.Keys[:5] {
		json.Get(o, key)
	}
	gets(t, o, "fine", num(1))
	lacks(t, o, "none")
}
