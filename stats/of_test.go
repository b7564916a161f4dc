package stats_test

import (
	"math"
	"slices"
	"strconv"
	"strings"
	"testing"

	"boathouse/api"
)

// known is a list with its statistics, written by hand.
type known struct {
	vs       []api.Value
	nulls    int
	least    api.Value
	greatest api.Value
}

// byHand are lists as Of tells them.
func byHand() []known {
	return slices.Concat(numbersByHand(), truthsByHand(), textsByHand(), mixedByHand())
}

// numbersByHand are lists of nulls and numbers.
func numbersByHand() []known {
	return []known{
		{nil, 0, null(), null()},
		{values(null()), 1, null(), null()},
		{times(3, null()), 3, null(), null()},
		{numbers(5), 0, num(5), num(5)},
		{numbers(0), 0, num(0), num(0)},
		{numbers(-1), 0, num(-1), num(-1)},
		{numbers(4, 4, 4), 0, num(4), num(4)},
		{numbers(1, 2), 0, num(1), num(2)},
		{numbers(2, 1), 0, num(1), num(2)},
		{numbers(3, 1, 2), 0, num(1), num(3)},
		{numbers(-3, -1, -2), 0, num(-3), num(-1)},
		{numbers(0, -1, 1, 0), 0, num(-1), num(1)},
		// By their worth, neither by their digits nor by their bytes.
		{numbers(10, 9, 256, 255, -256), 0, num(-256), num(256)},
		{numbers(100, 20, 3), 0, num(3), num(100)},
		{numbers(1<<32, 1, -1<<32), 0, num(-1 << 32), num(1 << 32)},
		// The edges: what is between them could be no int.
		{numbers(math.MaxInt), 0, num(math.MaxInt), num(math.MaxInt)},
		{numbers(math.MinInt), 0, num(math.MinInt), num(math.MinInt)},
		{numbers(math.MaxInt, math.MinInt), 0, num(math.MinInt), num(math.MaxInt)},
		{numbers(math.MinInt, 1), 0, num(math.MinInt), num(1)},
		{numbers(-1, math.MaxInt), 0, num(-1), num(math.MaxInt)},
		{numbers(math.MaxInt-1, math.MaxInt, math.MaxInt-1), 0, num(math.MaxInt - 1), num(math.MaxInt)},
		{numbers(math.MinInt+1, math.MinInt), 0, num(math.MinInt), num(math.MinInt + 1)},
		// Nulls first, last, between: they are no bound, though they stand ahead of all.
		{values(null(), num(5)), 1, num(5), num(5)},
		{values(num(5), null()), 1, num(5), num(5)},
		{values(null(), num(math.MinInt), null(), num(-7), null()), 3, num(math.MinInt), num(-7)},
		{values(num(1), null(), null(), num(9), num(4)), 2, num(1), num(9)},
		{values(null(), num(0)), 1, num(0), num(0)},
	}
}

// truthsByHand are lists of truths, false ahead of true.
func truthsByHand() []known {
	no, yes := truth(false), truth(true)
	return []known{
		{values(no), 0, no, no},
		{values(yes), 0, yes, yes},
		{values(no, yes), 0, no, yes},
		{values(yes, no), 0, no, yes},
		{values(no, no, no), 0, no, no},
		{values(yes, yes), 0, yes, yes},
		{values(yes, no, yes), 0, no, yes},
		{values(null(), no), 1, no, no},
		{values(null(), yes, null()), 2, yes, yes},
		{values(yes, null(), no), 1, no, yes},
	}
}

// textsByHand are lists of texts, byte by byte.
func textsByHand() []known {
	return []known{
		{texts(""), 0, text(""), text("")},
		{texts("", ""), 0, text(""), text("")},
		{values(text(""), null()), 1, text(""), text("")},
		{texts("b", "", "a"), 0, text(""), text("b")},
		{texts("a"), 0, text("a"), text("a")},
		{texts("b", "a", "c"), 0, text("a"), text("c")},
		// One that begins another stands ahead of it; length alone tells nothing.
		{texts("ab", "a", "abc"), 0, text("a"), text("abc")},
		{texts("b", "ab", "aaa"), 0, text("aaa"), text("b")},
		{texts("a", "a\x00"), 0, text("a"), text("a\x00")},
		{texts("\x00\x00", "\x00"), 0, text("\x00"), text("\x00\x00")},
		{texts("10", "9"), 0, text("10"), text("9")},
		{texts("a", "B"), 0, text("B"), text("a")},
		// Several bytes a rune, and bytes that are no runes.
		{texts("é", "z", "日"), 0, text("z"), text("日")},
		{texts("\U00010000", "\uffff"), 0, text("\uffff"), text("\U00010000")},
		{texts("\xff", "\U0010ffff"), 0, text("\U0010ffff"), text("\xff")},
		{texts("\x80", "é", "\x7f"), 0, text("\x7f"), text("é")},
		{texts("\xff\xff", "\xff", "\xfe"), 0, text("\xfe"), text("\xff\xff")},
		{texts(strings.Repeat("x", 65), strings.Repeat("x", 64)), 0, text(strings.Repeat("x", 64)), text(strings.Repeat("x", 65))},
		{values(null(), text("b"), null(), text("a"), null()), 3, text("a"), text("b")},
	}
}

// mixedByHand are lists of several kinds: by kind, then value.
func mixedByHand() []known {
	return []known{
		{values(truth(false), num(9)), 0, num(9), truth(false)},
		{values(text(""), num(math.MaxInt)), 0, num(math.MaxInt), text("")},
		{values(text(""), truth(true)), 0, truth(true), text("")},
		{values(truth(true), text("a"), num(1)), 0, num(1), text("a")},
		{values(text("1"), num(2), truth(true), null(), num(-3), text("0")), 1, num(-3), text("1")},
		{values(null(), truth(true), null(), truth(false), num(0)), 2, num(0), truth(true)},
		{values(null(), num(0), truth(false), text("")), 1, num(0), text("")},
		{values(text("z"), text("b"), truth(true)), 0, truth(true), text("z")},
	}
}

// P10.1 Of

func TestOfByHand(t *testing.T) {
	for _, k := range byHand() {
		for _, col := range cols() {
			asks(t, col, k.vs, stat(col, k.nulls, k.least, k.greatest))
		}
	}
}

// The test's own sorting tells of the lists by hand what is written there.
func TestOwnSortingByHand(t *testing.T) {
	for _, k := range byHand() {
		if got := told(6, k.vs); got != stat(6, k.nulls, k.least, k.greatest) {
			t.Errorf("%s: %s", tell(k.vs), tellStat(got))
		}
	}
	for i, v := range ranked() {
		for j, w := range ranked() {
			if (key(v) < key(w)) != (i < j) {
				t.Errorf("%s, %s", tellOne(v), tellOne(w))
			}
		}
	}
}

func TestOfNoValues(t *testing.T) {
	for _, col := range cols() {
		for _, vs := range [][]api.Value{nil, values(), numbers(1, 2)[:0], times(3, null())[3:]} {
			asks(t, col, vs, bare(col, 0))
		}
	}
}

// Nulls that come to many, alone and with one value at each place of some.
func TestOfManyNulls(t *testing.T) {
	for _, many := range []int{1, 2, 63, 64, 65, 255, 256, api.MaxTable - 1, api.MaxTable, api.MaxTable + 1, 1 << 17} {
		vs := times(many, null())
		asks(t, 3, vs, bare(3, many))
		for _, v := range values(num(math.MinInt), num(math.MaxInt), truth(false), text(""), text("\xff")) {
			for _, at := range []int{0, many / 2, many - 1} {
				vs[at] = v
				asks(t, 3, vs, stat(3, many-1, v, v))
				vs[at] = null()
			}
		}
	}
}

// One value of each kind, alone and several times, nulls around it or none.
func TestOfValuesThatAreAllOne(t *testing.T) {
	for _, v := range ranked() {
		for _, many := range []int{1, 2, 3, 100, api.MaxTable} {
			asks(t, 1, times(many, v), stat(1, 0, v, v))
			asks(t, 1, slices.Concat(times(many, null()), times(many, v), times(2, null())), stat(1, many+2, v, v))
		}
	}
}

// The bounds first, last, in the middle, and several times, among others and nulls.
func TestOfWhereTheBoundsStand(t *testing.T) {
	vs := ranked()
	for from := range vs {
		for to := from + 2; to < len(vs); to += 3 {
			least, greatest, between := vs[from], vs[to], append(slices.Clone(vs[from+1:to]), null())
			want := stat(8, 1, least, greatest)
			for at := range len(between) + 1 {
				asks(t, 8, slices.Insert(slices.Concat(values(least), between), at+1, greatest), want)
				asks(t, 8, slices.Insert(slices.Concat(values(greatest), between), at+1, least), want)
			}
			asks(t, 8, slices.Concat(values(least, greatest, least), between, values(least, greatest)), want)
			asks(t, 8, slices.Concat(values(greatest), between, values(greatest, least, greatest)), want)
			slices.Reverse(between)
			asks(t, 8, slices.Concat(between, values(least, greatest)), want)
			asks(t, 8, slices.Concat(between, values(greatest, least)), want)
		}
	}
}

// Every list of at most five values out of eight.
func TestOfShortLists(t *testing.T) {
	few := values(null(), num(0), num(-1), truth(false), truth(true), text(""), text("a"), api.Value{Kind: 4, I: -9, S: "z"})
	ofEachList(few, 5, func(vs []api.Value) { asks(t, 5, vs, told(5, vs)) })
}

func TestOfRolledLists(t *testing.T) {
	r := rolls(1)
	for range 10000 {
		vs := rolled(r, 30)
		asks(t, -6, vs, told(-6, vs))
	}
}

// Lists as long as a table and longer, their bounds anywhere.
func TestOfLongLists(t *testing.T) {
	for _, size := range []int{api.MaxTable, api.MaxTable + 1, 20 * api.MaxTable} {
		var up []api.Value
		for i := range size {
			up = append(up, num(i), text(strconv.Itoa(i)))
		}
		asks(t, 2, up, stat(2, 0, num(0), text("9"+strings.Repeat("9", len(strconv.Itoa(size-1))-2))))
		down := slices.Clone(up)
		slices.Reverse(down)
		asks(t, 2, down, told(2, up))
		asks(t, 2, append(down, text("zz"), num(-1), null()), stat(2, 1, num(-1), text("zz")))
	}
}

// Long texts, told apart at each end.
func TestOfLongTexts(t *testing.T) {
	s := strings.Repeat("m", api.MaxText)
	vs := times(2*api.MaxTable, text(s))
	asks(t, 1, vs, stat(1, 0, text(s), text(s)))
	for _, other := range texts(s+"\x00", s[1:], "l"+s[1:], "n"+s[1:], s[1:]+"l", s[1:]+"n") {
		asks(t, 1, append(vs, other), told(1, values(text(s), other)))
	}
}

// A kind that there is none of is null, whatever its fields say.
func TestOfKindsThatThereAreNoneOf(t *testing.T) {
	var all []api.Value
	for i, kind := range noKinds() {
		odd := api.Value{Kind: kind, I: 5 - i, B: i%2 == 0, S: "s"}
		all = append(all, odd)
		asks(t, 4, values(odd), bare(4, 1))
		asks(t, 4, values(odd, null(), odd), bare(4, 3))
		for _, v := range values(num(math.MinInt), num(math.MaxInt), truth(true), text(""), text("\xff")) {
			asks(t, 4, values(odd, v), stat(4, 1, v, v))
			asks(t, 4, values(v, odd), stat(4, 1, v, v))
			asks(t, 4, values(odd, v, null(), odd), stat(4, 3, v, v))
		}
	}
	asks(t, 4, all, bare(4, len(all)))
	asks(t, 4, append(all, num(3), truth(true)), stat(4, len(all), num(3), truth(true)))
}

// Fields that the kind doesn't name neither order values nor stand in what is answered (R2).
func TestOfFieldsThatTheKindDoesNotName(t *testing.T) {
	asks(t, 9, clothed(null()), bare(9, len(clothed(null()))))
	for i, v := range ranked() {
		all := clothed(v)
		asks(t, 9, all, stat(9, 0, v, v))
		for _, a := range all {
			asks(t, 9, values(a), stat(9, 0, v, v))
			for _, w := range ranked()[:i] {
				for _, b := range clothed(w) {
					asks(t, 9, values(a, b), stat(9, 0, w, v))
					asks(t, 9, values(b, a), stat(9, 0, w, v))
				}
			}
		}
	}
}
