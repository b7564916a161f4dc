package stats_test

import (
	"math"
	"slices"
	"testing"

	"boathouse/api"
	"boathouse/stats"
)

// pair are two statistics and what comes of them, written by hand.
type pair struct{ a, b, want api.Stat }

// joinedByHand are statistics as Join puts them together; their Cols alone hang on which stands first.
func joinedByHand() []pair {
	return []pair{
		// No bounds on both sides, on one.
		{bare(1, 0), bare(2, 0), bare(1, 0)},
		{bare(1, 3), bare(2, 4), bare(1, 7)},
		{bare(1, 2), stat(2, 3, num(1), num(4)), stat(1, 5, num(1), num(4))},
		{bare(1, 0), stat(2, 0, num(-4), num(-4)), stat(1, 0, num(-4), num(-4))},
		{bare(1, 1), stat(2, 0, num(math.MinInt), num(math.MinInt)), stat(1, 1, num(math.MinInt), num(math.MinInt))},
		{bare(1, 1), stat(2, 0, num(0), num(0)), stat(1, 1, num(0), num(0))},
		{bare(1, 9), stat(2, 1, truth(false), truth(false)), stat(1, 10, truth(false), truth(false))},
		{bare(1, 9), stat(2, 1, text(""), text("")), stat(1, 10, text(""), text(""))},
		{bare(1, 0), stat(2, 0, num(3), text("a")), stat(1, 0, num(3), text("a"))},
		// The same bounds.
		{stat(1, 0, num(2), num(5)), stat(2, 0, num(2), num(5)), stat(1, 0, num(2), num(5))},
		{stat(1, 1, text("a"), text("b")), stat(2, 2, text("a"), text("b")), stat(1, 3, text("a"), text("b"))},
		{stat(1, 0, truth(false), truth(true)), stat(2, 0, truth(false), truth(true)), stat(1, 0, truth(false), truth(true))},
		// One's within the other's, one bound shared or none.
		{stat(1, 0, num(1), num(9)), stat(2, 0, num(3), num(4)), stat(1, 0, num(1), num(9))},
		{stat(1, 0, num(1), num(9)), stat(2, 0, num(1), num(4)), stat(1, 0, num(1), num(9))},
		{stat(1, 0, num(1), num(9)), stat(2, 0, num(4), num(9)), stat(1, 0, num(1), num(9))},
		{stat(1, 1, num(math.MinInt), num(math.MaxInt)), stat(2, 1, num(-1), num(0)), stat(1, 2, num(math.MinInt), num(math.MaxInt))},
		{stat(1, 0, text(""), text("\xff")), stat(2, 0, text("a"), text("é")), stat(1, 0, text(""), text("\xff"))},
		{stat(1, 0, truth(false), truth(true)), stat(2, 0, truth(true), truth(true)), stat(1, 0, truth(false), truth(true))},
		// That meet, that lie across each other, that lie apart.
		{stat(1, 0, num(1), num(3)), stat(2, 0, num(3), num(5)), stat(1, 0, num(1), num(5))},
		{stat(1, 0, num(1), num(4)), stat(2, 0, num(3), num(5)), stat(1, 0, num(1), num(5))},
		{stat(1, 4, num(-9), num(-8)), stat(2, 6, num(7), num(8)), stat(1, 10, num(-9), num(8))},
		{stat(1, 0, num(math.MaxInt), num(math.MaxInt)), stat(2, 0, num(math.MinInt), num(math.MinInt)), stat(1, 0, num(math.MinInt), num(math.MaxInt))},
		{stat(1, 0, truth(true), truth(true)), stat(2, 0, truth(false), truth(false)), stat(1, 0, truth(false), truth(true))},
		{stat(1, 0, text("a"), text("ab")), stat(2, 0, text("abc"), text("b")), stat(1, 0, text("a"), text("b"))},
		{stat(1, 0, text("\xfe"), text("\xff")), stat(2, 0, text("日"), text("\U0010ffff")), stat(1, 0, text("日"), text("\xff"))},
		// Of several kinds.
		{stat(1, 0, num(7), num(8)), stat(2, 0, text(""), text("")), stat(1, 0, num(7), text(""))},
		{stat(1, 0, truth(true), truth(true)), stat(2, 0, num(7), text("a")), stat(1, 0, num(7), text("a"))},
		{stat(1, 0, truth(false), text("a")), stat(2, 0, num(9), truth(true)), stat(1, 0, num(9), text("a"))},
		// That no list gives: a Min above its Max, one bound alone, bounds of unlike kinds, Nulls below 0.
		{stat(1, 0, num(9), num(1)), stat(2, 0, num(5), num(5)), stat(1, 0, num(5), num(5))},
		{stat(1, 0, num(9), num(1)), stat(2, 0, num(8), num(2)), stat(1, 0, num(8), num(2))},
		{stat(1, 0, num(9), num(1)), bare(2, 0), stat(1, 0, num(9), num(1))},
		{stat(1, 0, num(9), null()), stat(2, 0, null(), num(1)), stat(1, 0, num(9), num(1))},
		{stat(1, 0, num(9), null()), stat(2, 0, num(10), num(1)), stat(1, 0, num(9), num(1))},
		{stat(1, 0, null(), truth(true)), bare(2, 1), stat(1, 1, null(), truth(true))},
		{stat(1, 0, text("z"), num(1)), stat(2, 0, truth(false), null()), stat(1, 0, truth(false), num(1))},
		{bare(1, -3), stat(2, 1, num(1), num(1)), stat(1, -2, num(1), num(1))},
		{bare(1, -3), bare(2, -4), bare(1, -7)},
		{bare(1, -3), bare(2, 3), bare(1, 0)},
	}
}

// P10.1 Join

func TestJoinByHand(t *testing.T) {
	for _, p := range joinedByHand() {
		joinsEitherWay(t, p.a, p.b, p.want)
	}
}

// The test's own sorting tells of the pairs by hand what is written there.
func TestOwnJoiningByHand(t *testing.T) {
	for _, p := range joinedByHand() {
		if got := toldOfBoth(p.a, p.b); got != p.want {
			t.Errorf("%s; %s: %s", tellStat(p.a), tellStat(p.b), tellStat(got))
		}
	}
}

// a's Col, whatever b's is.
func TestJoinOfAnyCols(t *testing.T) {
	for _, first := range cols() {
		for _, second := range cols() {
			joins(t, bare(first, 1), bare(second, 2), bare(first, 3))
			joins(t, bare(first, 0), stat(second, 0, num(1), num(2)), stat(first, 0, num(1), num(2)))
			joins(t, stat(first, 0, num(1), num(2)), bare(second, 0), stat(first, 0, num(1), num(2)))
			joins(t, stat(first, 0, num(1), num(2)), stat(second, 1, num(0), num(3)), stat(first, 1, num(0), num(3)))
		}
	}
}

// Nulls are added as they stand; with nulls alone there are no bounds still.
func TestJoinOfManyNulls(t *testing.T) {
	for _, p := range []struct{ a, b, want int }{
		{0, 1, 1}, {api.MaxTable, 1, api.MaxTable + 1}, {api.MaxTable, api.MaxTable, 2 * api.MaxTable}, {1 << 32, 1 << 32, 1 << 33},
		{math.MaxInt, 0, math.MaxInt}, {math.MaxInt - 1, 1, math.MaxInt}, {1 << 62, 1<<62 - 1, math.MaxInt},
		{math.MinInt, 0, math.MinInt}, {math.MinInt, math.MaxInt, -1}, {math.MinInt + 1, -1, math.MinInt}, {-1, 1, 0}, {-1 << 62, -1 << 62, math.MinInt},
	} {
		joinsEitherWay(t, bare(5, p.a), bare(6, p.b), bare(5, p.want))
		joinsEitherWay(t, stat(5, p.a, num(p.a), num(p.a)), bare(6, p.b), stat(5, p.want, num(p.a), num(p.a)))
	}
}

// Each two pairs of bounds out of some of each kind, in order or not, null among them.
func TestJoinOfEachBounds(t *testing.T) {
	few := values(null(), num(math.MinInt), num(0), num(math.MaxInt), truth(false), truth(true), text(""), text("a"), text("ab"), text("\xff"))
	var all []api.Stat
	for i, least := range few {
		for j, greatest := range few {
			all = append(all, stat(i-j, i*j, least, greatest))
		}
	}
	for _, a := range all {
		for _, b := range all {
			joins(t, a, b, toldOfBoth(a, b))
		}
	}
}

func TestJoinOfRolledStats(t *testing.T) {
	r := rolls(2)
	for range 30000 {
		a, b := rolledStat(r), rolledStat(r)
		joins(t, a, b, toldOfBoth(a, b))
	}
}

// A bound of a kind that there is none of is null: it counts for nothing, and none of it is answered.
func TestJoinOfKindsThatThereAreNoneOf(t *testing.T) {
	for i, kind := range noKinds() {
		odd := api.Value{Kind: kind, I: 5 - i, B: i%2 == 0, S: "s"}
		joinsEitherWay(t, stat(1, 1, odd, odd), bare(2, 2), bare(1, 3))
		joins(t, stat(1, 1, odd, odd), stat(2, 2, odd, odd), bare(1, 3))
		for _, v := range values(num(math.MinInt), num(0), num(math.MaxInt), truth(false), truth(true), text(""), text("\xff")) {
			joinsEitherWay(t, stat(1, 0, odd, odd), stat(2, 0, v, v), stat(1, 0, v, v))
			joinsEitherWay(t, stat(1, 0, odd, v), stat(2, 0, v, odd), stat(1, 0, v, v))
			joinsEitherWay(t, stat(1, 0, odd, v), stat(2, 0, odd, null()), stat(1, 0, null(), v))
			joinsEitherWay(t, stat(1, 0, v, odd), stat(2, 0, null(), odd), stat(1, 0, v, null()))
		}
	}
}

// Fields that a bound's kind doesn't name neither order bounds nor stand in what is answered (R2).
func TestJoinOfFieldsThatTheKindDoesNotName(t *testing.T) {
	few := values(null(), num(math.MinInt), num(0), num(math.MaxInt), truth(false), truth(true), text(""), text("a"), text("ab"), text("\xff"))
	for i, v := range few {
		for j, w := range few {
			a, b := stat(i, 1, v, v), stat(j, 2, w, w)
			want := toldOfBoth(a, b)
			for _, x := range clothed(v) {
				for _, y := range clothed(w) {
					joins(t, stat(i, 1, x, x), stat(j, 2, y, y), want)
				}
			}
		}
	}
}

// P10.2

// wholeOfParts asks that two lists put together have the Join of both's statistics, in either order.
func wholeOfParts(t *testing.T, vs []api.Value, ws []api.Value) {
	t.Helper()
	a, b := stats.Of(3, vs), stats.Of(8, ws)
	joins(t, a, b, stats.Of(3, slices.Concat(vs, ws)))
	joins(t, a, b, told(3, slices.Concat(vs, ws)))
	joins(t, b, a, stats.Of(8, slices.Concat(vs, ws)))
	joins(t, b, a, stats.Of(8, slices.Concat(ws, vs)))
}

func TestListsPutTogetherByHand(t *testing.T) {
	ks := byHand()
	for _, k := range ks {
		for _, other := range ks {
			wholeOfParts(t, k.vs, other.vs)
		}
	}
}

// However a list is cut.
func TestListsCutAtEachPlace(t *testing.T) {
	cut := func(vs []api.Value) {
		for at := range len(vs) + 1 {
			wholeOfParts(t, vs[:at], vs[at:])
		}
	}
	ofEachList(values(null(), num(0), num(-1), truth(true), text(""), text("a"), api.Value{Kind: -1, I: 9}), 4, cut)
	for _, k := range byHand() {
		cut(k.vs)
	}
	cut(slices.Concat(ranked(), times(2, null()), ranked()))
	r := rolls(3)
	for range 300 {
		cut(rolled(r, 30))
	}
}

// leftToRight, rightToLeft, inPairs put statistics together, each in its own row; Col is the first's in all.
func leftToRight(all []api.Stat) api.Stat {
	whole := all[0]
	for _, s := range all[1:] {
		whole = stats.Join(whole, s)
	}
	return whole
}

func rightToLeft(all []api.Stat) api.Stat {
	whole := all[len(all)-1]
	for i := len(all) - 2; i >= 0; i-- {
		whole = stats.Join(all[i], whole)
	}
	return whole
}

func inPairs(all []api.Stat) api.Stat {
	if len(all) == 1 {
		return all[0]
	}
	half := len(all) / 2
	return stats.Join(inPairs(all[:half]), inPairs(all[half:]))
}

// More lists than two: from the left, from the right, in pairs, and in another row.
func TestManyListsPutTogether(t *testing.T) {
	r := rolls(4)
	for range 3000 {
		var whole []api.Value
		var all []api.Stat
		for i := range 1 + r.IntN(9) {
			vs := rolled(r, 8)
			whole = append(whole, vs...)
			all = append(all, stats.Of(i+2, vs))
		}
		for range 2 {
			want := told(all[0].Col, whole)
			for _, got := range []api.Stat{leftToRight(all), rightToLeft(all), inPairs(all)} {
				if got != want {
					t.Fatalf("%s: %s, not %s", tell(whole), tellStat(got), tellStat(want))
				}
			}
			slices.Reverse(all)
		}
	}
}

// Each value a list of its own, and none among them.
func TestListsOfOneValuePutTogether(t *testing.T) {
	for _, k := range byHand() {
		all := []api.Stat{stats.Of(7, nil)}
		for _, v := range k.vs {
			all = append(all, stats.Of(1, values(v)), stats.Of(0, values()))
		}
		want := stat(7, k.nulls, k.least, k.greatest)
		for _, got := range []api.Stat{leftToRight(all), rightToLeft(all), inPairs(all)} {
			if got != want {
				t.Errorf("%s: %s, not %s", tell(k.vs), tellStat(got), tellStat(want))
			}
		}
	}
}
