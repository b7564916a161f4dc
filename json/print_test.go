package json_test

import (
	"math"
	"slices"
	"strconv"
	"strings"
	"testing"

	"boathouse/api"
	"boathouse/json"
)

// prints asks for a text.
func prints(t *testing.T, j api.Json, want string) {
	t.Helper()
	if s, e := json.Print(j); e != api.OK || s != want {
		t.Errorf("Print: %s, %d, not %s", short(s), e, short(want))
	}
}

// unprinted asks for an error, and for nothing beside it.
func unprinted(t *testing.T, what string, j api.Json, want api.Errno) {
	t.Helper()
	if s, e := json.Print(j); e != want || s != "" {
		t.Errorf("%s: Print: %s, %d, not %d", what, short(s), e, want)
	}
}

// P3.2 Print

func TestPrint(t *testing.T) {
	prints(t, null(), "null")
	prints(t, truth(true), "true")
	prints(t, truth(false), "false")
	prints(t, text(""), `""`)
	prints(t, text("boat é日😀"), `"boat é日😀"`)
	prints(t, list(), "[]")
	prints(t, list([]api.Json{}...), "[]")
	prints(t, object(nil), "{}")
	prints(t, object([]string{}, []api.Json{}...), "{}")
	prints(t, list(null()), "[null]")
	prints(t, list(num(1), text("a"), truth(true), list(), object(nil), list(list(num(-2)), num(3))), `[1,"a",true,[],{},[[-2],3]]`)
	prints(t, object(keys("a"), num(1)), `{"a":1}`)
	prints(t, object(keys("b", "", "a"), num(1), object(keys("b"), list(num(2))), null()), `{"b":1,"":{"b":[2]},"a":null}`)
	for _, n := range []int{0, 1, -1, 9, 10, -10, 1000000, math.MaxInt32, math.MinInt32, math.MaxInt, math.MaxInt - 1, math.MinInt, math.MinInt + 1} {
		prints(t, num(n), strconv.Itoa(n))
	}
	prints(t, num(math.MaxInt64), "9223372036854775807")
	prints(t, num(math.MinInt64), "-9223372036854775808")
}

// Every byte that is a rune, in a text and in a key.
func TestPrintOfTexts(t *testing.T) {
	escapes := map[int]string{'"': `\"`, '\\': `\\`, 8: `\b`, 12: `\f`, 10: `\n`, 13: `\r`, 9: `\t`}
	for b := range 128 {
		want := string(rune(b))
		if escape, is := escapes[b]; is {
			want = escape
		} else if b < 32 {
			want = `\u00` + string("01"[b/16]) + string("0123456789abcdef"[b%16])
		}
		prints(t, text(string(rune(b))), `"`+want+`"`)
		prints(t, list(text("é"+string(rune(b))+"é")), `["é`+want+`é"]`)
		prints(t, object(keys(string(rune(b))), null()), `{"`+want+`":null}`)
	}
	for _, s := range []string{"/", "'", "<>&", "\x7f", "\u0080", "\u009f", "\u2028\u2029", "\ufeff", "\ufffd", "\uffff", "\U00010000", "\U0010ffff"} {
		prints(t, text(s), `"`+s+`"`)
		prints(t, object(keys(s), text(s)), `{"`+s+`":"`+s+`"}`)
	}
	prints(t, text(`\u0041`), `"\\u0041"`)
	prints(t, text("\x00\x0b\x1f"), `"\u0000\u000b\u001f"`)
}

// What a Kind does not use plays no part, be it well or not.
func TestPrintOfFieldsThatAreNotUsed(t *testing.T) {
	full := api.Json{B: true, N: 7, S: "\xff", L: []api.Json{{Kind: 99}, nested(20, null())}, Keys: keys("\xff", "\xff", "a")}
	as := func(kind int) api.Json {
		j := full
		j.Kind = kind
		return j
	}
	prints(t, as(api.JsonNull), "null")
	prints(t, as(api.JsonBool), "true")
	prints(t, as(api.JsonInt), "7")
	j := as(api.JsonText)
	j.S = "a"
	prints(t, j, `"a"`)
	j = as(api.JsonList)
	j.L = []api.Json{as(api.JsonInt), as(api.JsonNull)}
	prints(t, j, "[7,null]")
	j.Kind, j.Keys = api.JsonObject, keys("x", "y")
	prints(t, j, `{"x":7,"y":null}`)
}

func TestPrintOfNone(t *testing.T) {
	for _, kind := range []int{-1, -2, 6, 7, 99, 256, 1 << 32, math.MaxInt, math.MinInt} {
		unprinted(t, "kind", api.Json{Kind: kind, B: true, N: 1, S: "a"}, api.ErrJsonForm)
		unprinted(t, "kind in a list", list(num(1), api.Json{Kind: kind}), api.ErrJsonForm)
		unprinted(t, "kind in an object", object(keys("a"), api.Json{Kind: kind}), api.ErrJsonForm)
	}
	for _, s := range []string{"\xff", "a\x80", "é\xc3", "\xc0\x80", "\xed\xa0\x80", "\xf4\x90\x80\x80", "\xe6\x97", strings.Repeat("é", 1000) + "\xe6"} {
		unprinted(t, "text", text(s), api.ErrJsonForm)
		unprinted(t, "text in a list", list(text("a"), text(s)), api.ErrJsonForm)
		unprinted(t, "key", object(keys(s), num(1)), api.ErrJsonForm)
		unprinted(t, "last key", object(keys("a", "b", s), num(1), num(2), num(3)), api.ErrJsonForm)
	}
	for _, j := range []api.Json{
		object(keys("a")), object(nil, num(1)), object(keys("a", "b"), num(1)), object(keys("a"), num(1), num(2)), object(keys("a", "b", "c")),
		object(keys("a", "a"), num(1), num(2)), object(keys("", ""), num(1), num(1)), object(keys("a", "b", "a"), num(1), num(2), num(3)), object(keys("b", "c", "a", "a"), num(1), num(2), num(3), num(4)),
	} {
		unprinted(t, "keys", j, api.ErrJsonForm)
		unprinted(t, "keys within", list(num(1), object(keys("a", "x"), num(1), j)), api.ErrJsonForm)
	}
	prints(t, object(keys("a", "A", "a ", "é", "e\u0301"), object(keys("a"), num(1)), num(2), num(3), num(4), num(5)), `{"a":{"a":1},"A":2,"a ":3,"é":4,"`+"e\u0301"+`":5}`)
}

func TestPrintOfDeepValues(t *testing.T) {
	for _, bare := range []api.Json{null(), num(1), text("[[[["), truth(true)} {
		if _, e := json.Print(nested(api.MaxDepth, bare)); e != api.OK {
			t.Errorf("Print: %d", e)
		}
		unprinted(t, "17 deep", nested(api.MaxDepth+1, bare), api.ErrJsonDeep)
		unprinted(t, "60 deep", nested(60, bare), api.ErrJsonDeep)
	}
	for _, shell := range []api.Json{list(), object(nil)} {
		if _, e := json.Print(nested(api.MaxDepth-1, shell)); e != api.OK {
			t.Errorf("Print: %d", e)
		}
		unprinted(t, "an empty one 17 deep", nested(api.MaxDepth, shell), api.ErrJsonDeep)
	}
	prints(t, nested(3, num(1)), `[{"k":[1]}]`)
	// Side by side is not deep.
	part := nested(api.MaxDepth-1, num(1))
	if _, e := json.Print(list(part, part, part)); e != api.OK {
		t.Errorf("Print: %d", e)
	}
	unprinted(t, "the last of three", list(part, part, nested(api.MaxDepth, num(1))), api.ErrJsonDeep)
	// Lists that hold themselves.
	l := make([]api.Json, 1)
	l[0] = list(l...)
	unprinted(t, "a list in itself", l[0], api.ErrJsonDeep)
	l[0] = object(keys("a"), l...)
	unprinted(t, "an object in itself", l[0], api.ErrJsonDeep)
}

// A text that makes what is printed so long, if it stands alone in quotes.
func sized(bytes int) api.Json { return text(strings.Repeat("x", bytes-2)) }

func TestPrintOfLongValues(t *testing.T) {
	prints(t, sized(api.MaxText), `"`+strings.Repeat("x", api.MaxText-2)+`"`)
	unprinted(t, "one byte more", sized(api.MaxText+1), api.ErrJsonLong)
	unprinted(t, "far more", sized(40*api.MaxText), api.ErrJsonLong)
	prints(t, list(sized(api.MaxText-2)), `["`+strings.Repeat("x", api.MaxText-4)+`"]`)
	unprinted(t, "a list", list(sized(api.MaxText-1)), api.ErrJsonLong)
	prints(t, list(sized(api.MaxText-4), num(1)), `["`+strings.Repeat("x", api.MaxText-6)+`",1]`)
	unprinted(t, "a number", list(sized(api.MaxText-4), num(10)), api.ErrJsonLong)
	prints(t, object(keys("k"), sized(api.MaxText-6)), `{"k":"`+strings.Repeat("x", api.MaxText-8)+`"}`)
	unprinted(t, "an object", object(keys("k"), sized(api.MaxText-5)), api.ErrJsonLong)
	prints(t, object(keys(strings.Repeat("x", api.MaxText-6)), num(1)), `{"`+strings.Repeat("x", api.MaxText-6)+`":1}`)
	unprinted(t, "a key", object(keys(strings.Repeat("x", api.MaxText-5)), num(1)), api.ErrJsonLong)
	prints(t, list(sized(api.MaxText-5), list()), `["`+strings.Repeat("x", api.MaxText-7)+`",[]]`)
	unprinted(t, "an empty list", list(sized(api.MaxText-4), list()), api.ErrJsonLong)
	// An escape counts as it is printed, and so do the bytes of a rune.
	prints(t, text(strings.Repeat("\x00", 10922)), `"`+strings.Repeat(`\u0000`, 10922)+`"`)
	unprinted(t, "escapes of six", text(strings.Repeat("\x00", 10922)+"xxx"), api.ErrJsonLong)
	prints(t, text(strings.Repeat("\n", 32767)), `"`+strings.Repeat(`\n`, 32767)+`"`)
	unprinted(t, "escapes of two", text(strings.Repeat(`"`, 32767)+"x"), api.ErrJsonLong)
	prints(t, text(strings.Repeat("é", 32767)), `"`+strings.Repeat("é", 32767)+`"`)
	unprinted(t, "runes of two", text(strings.Repeat("é", 32768)), api.ErrJsonLong)
	unprinted(t, "many", list(slices.Repeat([]api.Json{num(1)}, api.MaxText)...), api.ErrJsonLong)
	prints(t, list(slices.Repeat([]api.Json{num(1)}, api.MaxText/2-1)...), "["+strings.Repeat("1,", api.MaxText/2-2)+"1]")
}

// Errors: the first that is met in one walk.
func TestPrintOfWhichComesFirst(t *testing.T) {
	form := map[string]api.Json{
		"kind": {Kind: 9}, "text": text("\xff"), "key": object(keys("\xff"), num(1)), "keys": object(keys("a")), "alike": object(keys("a", "a"), num(1), num(2)),
		"long text": text(strings.Repeat("x", 2*api.MaxText) + "\xff"), "long key": object(keys(strings.Repeat("x", 2*api.MaxText)+"\xff"), num(1)),
		"behind a long key": object(keys(strings.Repeat("x", 2*api.MaxText), "\xff"), num(1), num(1)),
	}
	deep := nested(api.MaxDepth+1, num(1))
	for name, fault := range form {
		unprinted(t, name, fault, api.ErrJsonForm)
		unprinted(t, name+" ahead of deep", list(fault, deep), api.ErrJsonForm)
		unprinted(t, name+" behind deep", list(deep, fault), api.ErrJsonDeep)
		unprinted(t, name+" ahead of long", list(fault, sized(2*api.MaxText)), api.ErrJsonForm)
		unprinted(t, name+" behind long", list(sized(2*api.MaxText), fault), api.ErrJsonLong)
		// What stands ahead of a value: the comma and the key, too.
		unprinted(t, name+" behind MaxText", list(sized(api.MaxText-2), fault), api.ErrJsonForm)
		unprinted(t, name+" behind MaxText and 1", list(sized(api.MaxText-1), fault), api.ErrJsonLong)
		unprinted(t, name+" within behind MaxText", list(sized(api.MaxText-3), list(fault)), api.ErrJsonForm)
		unprinted(t, name+" within behind MaxText and 1", list(sized(api.MaxText-2), list(fault)), api.ErrJsonLong)
		unprinted(t, name+" behind a key to MaxText", object(keys(strings.Repeat("x", api.MaxText-4)), fault), api.ErrJsonForm)
		unprinted(t, name+" behind a key to MaxText and 1", object(keys(strings.Repeat("x", api.MaxText-3)), fault), api.ErrJsonLong)
	}
	unprinted(t, "deep behind MaxText", list(sized(api.MaxText-17), deep), api.ErrJsonLong)
	unprinted(t, "deep behind less", list(sized(api.MaxText-200), deep), api.ErrJsonDeep)
	unprinted(t, "deep behind long", list(sized(api.MaxText-1), deep), api.ErrJsonLong)
	unprinted(t, "deep ahead of long", list(deep, sized(2*api.MaxText)), api.ErrJsonDeep)
	// Of an object: how deep it stands, then its keys, then what its values tell.
	for name, o := range map[string]api.Json{"key": object(keys("\xff"), num(1)), "keys": object(keys("a")), "alike": object(keys("a", "a"), num(1), num(2))} {
		unprinted(t, name+" 16 deep", nested(api.MaxDepth-1, o), api.ErrJsonForm)
		unprinted(t, name+" 17 deep", nested(api.MaxDepth, o), api.ErrJsonDeep)
	}
	unprinted(t, "keys ahead of values", object(keys("a", "b", "a"), deep, num(1), num(2)), api.ErrJsonForm)
	unprinted(t, "a last key ahead of a first value", object(keys("a", "\xff"), deep, num(1)), api.ErrJsonForm)
	unprinted(t, "too many keys ahead of values", object(keys("a", "b"), deep), api.ErrJsonForm)
	unprinted(t, "too few keys ahead of long", object(keys("a"), sized(2*api.MaxText), num(1)), api.ErrJsonForm)
}

// Values that share their parts would be endless texts: Print ends where the text is too long.
func TestPrintOfSharedParts(t *testing.T) {
	wide, named := num(1), num(1)
	for range api.MaxDepth {
		wide = list(wide, wide, wide, wide, wide, wide, wide, wide)
		named = object(keys("a", "b", "c", "d"), named, named, named, named)
	}
	unprinted(t, "lists", wide, api.ErrJsonLong)
	unprinted(t, "objects", named, api.ErrJsonLong)
	unprinted(t, "a fault behind", list(wide, api.Json{Kind: 9}), api.ErrJsonDeep)
	small := list(num(1), num(2))
	prints(t, list(small, small, list(small)), "[[1,2],[1,2],[[1,2]]]")
	names := make([]string, 1000)
	for i := range names {
		names[i] = strconv.Itoa(i)
	}
	o := null()
	for range api.MaxDepth {
		o = object(names, slices.Repeat([]api.Json{o}, len(names))...)
	}
	unprinted(t, "great objects", o, api.ErrJsonLong)
}
