package runs_test

import (
	"math"
	"math/big"
	"math/bits"
	"slices"
	"strconv"
	"strings"
	"sync"
	"testing"
	"unsafe"

	"boathouse/api"
	"boathouse/runs"
)

// null, num, truth, text answer values with their kind's field alone.
func null() api.Value         { return api.Value{} }
func num(x int) api.Value     { return api.Value{Kind: api.KindInt, I: x} }
func truth(b bool) api.Value  { return api.Value{Kind: api.KindBool, B: b} }
func text(s string) api.Value { return api.Value{Kind: api.KindText, S: s} }

// values, numbers are short for lists.
func values(vs ...api.Value) []api.Value { return vs }
func numbers(xs ...int) []int            { return xs }

// known is a list of values and its runs, written by hand.
type known struct {
	vs   []api.Value
	many []int
	each []api.Value
}

// byHand are lists as Cut tells them.
func byHand() []known {
	a, b, e := text("a"), text("b"), text("")
	return []known{
		{nil, nil, nil},
		{values(num(5)), numbers(1), values(num(5))},
		{values(truth(true)), numbers(1), values(truth(true))},
		{values(a), numbers(1), values(a)},
		{values(null()), numbers(1), values(null())},
		{values(num(5), num(5)), numbers(2), values(num(5))},
		{values(truth(false), truth(false)), numbers(2), values(truth(false))},
		{values(a, a, a), numbers(3), values(a)},
		{values(null(), null(), null(), null()), numbers(4), values(null())},
		{values(num(1), num(2)), numbers(1, 1), values(num(1), num(2))},
		{values(num(1), num(2), num(1)), numbers(1, 1, 1), values(num(1), num(2), num(1))},
		{values(num(1), num(1), num(2), num(1)), numbers(2, 1, 1), values(num(1), num(2), num(1))},
		{values(num(1), num(2), num(2), num(1)), numbers(1, 2, 1), values(num(1), num(2), num(1))},
		{values(num(1), num(2), num(1), num(1)), numbers(1, 1, 2), values(num(1), num(2), num(1))},
		{values(a, a, b, b, b, a), numbers(2, 3, 1), values(a, b, a)},
		{values(truth(true), truth(false), truth(false), truth(true)), numbers(1, 2, 1), values(truth(true), truth(false), truth(true))},
		{values(null(), num(0), num(0), null(), null()), numbers(1, 2, 2), values(null(), num(0), null())},
		// Zero values of each kind are unlike.
		{values(null(), num(0), truth(false), e), numbers(1, 1, 1, 1), values(null(), num(0), truth(false), e)},
		{values(e, truth(false), num(0), null(), e), numbers(1, 1, 1, 1, 1), values(e, truth(false), num(0), null(), e)},
		{values(num(1), truth(true), text("1"), text("true")), numbers(1, 1, 1, 1), values(num(1), truth(true), text("1"), text("true"))},
		// Numbers that are nearly one.
		{values(num(1), num(-1), num(0)), numbers(1, 1, 1), values(num(1), num(-1), num(0))},
		{values(num(7), num(7+1<<32), num(7+1<<62)), numbers(1, 1, 1), values(num(7), num(7+1<<32), num(7+1<<62))},
		{values(num(math.MaxInt), num(math.MaxInt), num(math.MaxInt-1)), numbers(2, 1), values(num(math.MaxInt), num(math.MaxInt-1))},
		{values(num(math.MinInt), num(math.MinInt), num(math.MinInt+1)), numbers(2, 1), values(num(math.MinInt), num(math.MinInt+1))},
		{values(num(math.MaxInt), num(math.MinInt), num(math.MinInt), num(-1)), numbers(1, 2, 1), values(num(math.MaxInt), num(math.MinInt), num(-1))},
		// Texts that are nearly one: any bytes are a text.
		{values(a, text("ab"), text("aba"), a), numbers(1, 1, 1, 1), values(a, text("ab"), text("aba"), a)},
		{values(a, text("A"), text("a "), text(" a"), text("a\x00"), text("\x00a")), numbers(1, 1, 1, 1, 1, 1), values(a, text("A"), text("a "), text(" a"), text("a\x00"), text("\x00a"))},
		{values(e, text("\x00"), text("\x00\x00")), numbers(1, 1, 1), values(e, text("\x00"), text("\x00\x00"))},
		{values(text("é"), text("é"), text("e\u0301")), numbers(2, 1), values(text("é"), text("e\u0301"))},
		{values(text("\xff"), text("\xff"), text("\xfe"), text("\ufffd")), numbers(2, 1, 1), values(text("\xff"), text("\xfe"), text("\ufffd"))},
		{values(e, e, null(), null(), e), numbers(2, 2, 1), values(e, null(), e)},
	}
}

// noKinds are kinds that there are none of, some with lowest bits that are a kind's.
func noKinds() []int {
	return []int{
		-1, -2, -3, -4, api.KindText + 1, api.KindText + 2, 8, 9, 255, 256, 257, 258, 259, 1 << 16, 1<<16 + 1, 1 << 31, 1 << 32,
		1<<32 + 1, 1<<32 + 2, 1<<32 + 3, -1 << 32, -1<<32 + 1, -1 << 62, math.MaxInt - 1, math.MaxInt, math.MinInt, math.MinInt + 1, math.MinInt + 3,
	}
}

// clothed answers values with the same kind's field as v, and with others in those that the kind doesn't name.
func clothed(v api.Value) []api.Value {
	var all []api.Value
	for _, i := range []int{0, 1, -1, math.MinInt} {
		for _, b := range []bool{false, true} {
			for _, s := range []string{"", "a", "\xff"} {
				w := api.Value{Kind: v.Kind, I: i, B: b, S: s}
				switch v.Kind {
				case api.KindInt:
					w.I = v.I
				case api.KindBool:
					w.B = v.B
				case api.KindText:
					w.S = v.S
				}
				all = append(all, w)
			}
		}
	}
	return all
}

// one answers a text that is the same for two values just where they are one: the test's own measure.
func one(v api.Value) string {
	switch v.Kind {
	case 1:
		return "n" + strconv.Itoa(v.I)
	case 2:
		return "b" + strconv.FormatBool(v.B)
	case 3:
		return "s" + v.S
	}
	return ""
}

// bare answers what a value's own text says of it.
func bare(v api.Value) api.Value {
	said := one(v)
	if said == "" {
		return null()
	}
	switch said[0] {
	case 'n':
		x, _ := strconv.Atoi(said[1:])
		return num(x)
	case 'b':
		return truth(said == "btrue")
	}
	return text(said[1:])
}

// bares answers values with what counts of them alone.
func bares(vs []api.Value) []api.Value {
	var all []api.Value
	for _, v := range vs {
		all = append(all, bare(v))
	}
	return all
}

// parted answers a list's runs, worked out from the last value to the first.
func parted(vs []api.Value) ([]int, []api.Value) {
	var many []int
	var each []api.Value
	end := len(vs)
	for at := len(vs) - 1; at >= 0; at-- {
		if at == 0 || one(vs[at-1]) != one(vs[at]) {
			many = append(many, end-at)
			each = append(each, bare(vs[at]))
			end = at
		}
	}
	slices.Reverse(many)
	slices.Reverse(each)
	return many, each
}

// mayJoin tells whether the promise lets Join answer.
func mayJoin(many []int, vs []api.Value) bool {
	if len(many) != len(vs) {
		return false
	}
	sum := new(big.Int)
	for _, x := range many {
		if x <= 0 {
			return false
		}
		sum.Add(sum, big.NewInt(int64(x)))
	}
	for i := range vs[:max(len(vs)-1, 0)] {
		if one(vs[i]) == one(vs[i+1]) {
			return false
		}
	}
	return sum.Cmp(big.NewInt(api.MaxTable)) <= 0
}

// tell cuts what a fault tells of values.
func tell(vs []api.Value) string {
	var told []string
	for _, v := range vs[:min(len(vs), 12)] {
		s := strconv.QuoteToASCII(v.S[:min(len(v.S), 12)])
		told = append(told, "{"+strconv.Itoa(v.Kind)+" "+strconv.Itoa(v.I)+" "+strconv.FormatBool(v.B)+" "+s+"}")
	}
	return strconv.Itoa(len(vs)) + " values [" + strings.Join(told, " ") + "]"
}

// tellMany cuts what a fault tells of numbers.
func tellMany(many []int) string {
	var told []string
	for _, x := range many[:min(len(many), 12)] {
		told = append(told, strconv.Itoa(x))
	}
	return strconv.Itoa(len(many)) + " numbers [" + strings.Join(told, " ") + "]"
}

// cuts asks for a list's runs.
func cuts(t *testing.T, vs []api.Value, many []int, each []api.Value) {
	t.Helper()
	if gotMany, gotEach := runs.Cut(vs); !slices.Equal(gotMany, many) || !slices.Equal(gotEach, each) {
		t.Errorf("Cut(%s): %s, %s, not %s, %s", tell(vs), tellMany(gotMany), tell(gotEach), tellMany(many), tell(each))
	}
}

// joins asks for the runs' list.
func joins(t *testing.T, many []int, vs []api.Value, want []api.Value) {
	t.Helper()
	if got, e := runs.Join(many, vs); !slices.Equal(got, want) || e != api.OK {
		t.Errorf("Join(%s, %s): %s, %d, not %s", tellMany(many), tell(vs), tell(got), e, tell(want))
	}
}

// refuses asks for the error, and for nothing beside it.
func refuses(t *testing.T, many []int, vs []api.Value) {
	t.Helper()
	if got, e := runs.Join(many, vs); len(got) != 0 || e != api.ErrRunsForm {
		t.Errorf("Join(%s, %s): %s, %d", tellMany(many), tell(vs), tell(got), e)
	}
}

// cutsAndJoins asks for a list's runs, as the test's own walk tells them, and for the list again.
func cutsAndJoins(t *testing.T, vs []api.Value) {
	t.Helper()
	many, each := parted(vs)
	cuts(t, vs, many, each)
	if len(vs) > api.MaxTable {
		refuses(t, many, each)
		return
	}
	joins(t, many, each, bares(vs))
}

// judged asks Join for what follows from the words of the promise.
func judged(t *testing.T, many []int, vs []api.Value) {
	t.Helper()
	if !mayJoin(many, vs) {
		refuses(t, many, vs)
		return
	}
	var want []api.Value
	for i, v := range vs {
		want = append(want, slices.Repeat(values(bare(v)), many[i])...)
	}
	joins(t, many, vs, want)
	cuts(t, want, many, bares(vs))
}

// dice answers numbers that are the same in each run.
func dice(seed uint64) func() uint64 {
	state := seed*2 + 1
	return func() uint64 {
		state = state*6364136223846793005 + 1442695040888963407
		return bits.RotateLeft64(state, 29) ^ state
	}
}

// rolled answers a value out of few, so that like ones meet; some have fields that their kind doesn't name.
func rolled(roll func() uint64) api.Value {
	few := values(
		null(), num(0), num(1), num(math.MinInt), truth(false), truth(true), text(""), text("a"), text("ab"), text("\xff"),
		api.Value{Kind: 4, I: 1}, api.Value{Kind: -1, S: "a"}, api.Value{I: 1, B: true},
		api.Value{Kind: 1, B: true, S: "a"}, api.Value{Kind: 2, I: 1, S: "a"}, api.Value{Kind: 3, I: 1, B: true})
	return few[roll()%uint64(len(few))]
}

// rolledList answers a list of some rolled values, each some times.
func rolledList(roll func() uint64, most int) []api.Value {
	var vs []api.Value
	for range roll() % uint64(most) {
		vs = append(vs, slices.Repeat(values(rolled(roll)), 1+int(roll()%4))...)
	}
	return vs
}

// unlike answers so many values of which no two are one.
func unlike(many int) []api.Value {
	vs := make([]api.Value, many)
	for i := range vs {
		vs[i] = num(i - many/2)
		if i%2 == 0 {
			vs[i] = text("t" + strconv.Itoa(i))
		}
	}
	return vs
}

// ones answers so many numbers that are 1.
func ones(many int) []int {
	return slices.Repeat(numbers(1), many)
}

// changed answers the numbers with one of them another.
func changed(many []int, at int, x int) []int {
	other := slices.Clone(many)
	other[at] = x
	return other
}

// P7.1 Cut and Join: what belongs together

func TestCutByHand(t *testing.T) {
	for _, k := range byHand() {
		cuts(t, k.vs, k.many, k.each)
	}
}

func TestJoinByHand(t *testing.T) {
	for _, k := range byHand() {
		joins(t, k.many, k.each, k.vs)
	}
}

// The test's own walk tells of the lists by hand what is written there.
func TestOwnWalkByHand(t *testing.T) {
	for _, k := range byHand() {
		many, each := parted(k.vs)
		if !slices.Equal(many, k.many) || !slices.Equal(each, k.each) || !mayJoin(many, each) {
			t.Errorf("%s: %s, %s", tell(k.vs), tellMany(many), tell(each))
		}
	}
}

func TestNoValues(t *testing.T) {
	cuts(t, nil, nil, nil)
	cuts(t, values(), nil, nil)
	cuts(t, values(num(1), num(1))[:0], nil, nil)
	joins(t, nil, nil, nil)
	joins(t, numbers(), values(), nil)
	joins(t, nil, values(), nil)
	joins(t, numbers(), nil, nil)
	joins(t, numbers(-1)[:0], values(num(1))[:0], nil)
}

// Every list of at most five values out of seven.
func TestShortLists(t *testing.T) {
	few := values(null(), num(0), truth(false), text(""), text("a"), api.Value{Kind: 1, S: "a"}, api.Value{Kind: 7, I: 3})
	lists := [][]api.Value{nil}
	for at := 0; at < len(lists); at++ {
		vs := lists[at]
		cutsAndJoins(t, vs)
		if len(vs) == 5 {
			continue
		}
		for _, v := range few {
			lists = append(lists, append(slices.Clone(vs), v))
		}
	}
}

func TestRolledLists(t *testing.T) {
	roll := dice(1)
	for range 4000 {
		cutsAndJoins(t, rolledList(roll, 40))
	}
}

// A run of each length, alone and between others.
func TestRunsOfEachLength(t *testing.T) {
	for _, v := range values(null(), num(3), truth(true), text("abc")) {
		for size := 1; size <= api.MaxTable; size += 1 + size/3 {
			run := slices.Repeat(values(v), size)
			cuts(t, run, numbers(size), values(v))
			joins(t, numbers(size), values(v), run)
			if size > api.MaxTable-3 {
				continue
			}
			amid := slices.Concat(values(num(9)), run, values(text("z"), text("z")))
			cuts(t, amid, numbers(1, size, 2), values(num(9), v, text("z")))
			joins(t, numbers(1, size, 2), values(num(9), v, text("z")), amid)
		}
	}
}

// P7.1 what is ahead of the calls: when values are one

// Fields that the kind doesn't name neither part values nor stand in what is answered (R2).
func TestFieldsThatTheKindDoesNotName(t *testing.T) {
	for _, v := range values(null(), num(0), num(1), num(-5), num(math.MinInt), truth(false), truth(true), text(""), text("a"), text("b\x00")) {
		all := clothed(v)
		cuts(t, all, numbers(len(all)), values(v))
		for _, w := range all {
			cuts(t, values(w), numbers(1), values(v))
			cuts(t, values(v, w), numbers(2), values(v))
			cuts(t, values(w, v), numbers(2), values(v))
			joins(t, numbers(1), values(w), values(v))
			joins(t, numbers(3), values(w), values(v, v, v))
			joins(t, numbers(2, 1), values(w, text("else")), values(v, v, text("else")))
			refuses(t, numbers(1, 1), values(v, w))
			refuses(t, numbers(1, 1), values(w, v))
			refuses(t, numbers(1, 1), values(w, w))
		}
	}
}

// Values with like fields are unlike by their kinds, and by their kind's field.
func TestLikeFieldsOfOtherKinds(t *testing.T) {
	for _, like := range values(api.Value{}, api.Value{I: 1, B: true, S: "1"}, api.Value{I: -1, S: "\xff"}, api.Value{B: true}) {
		for first := range 4 {
			for second := range 4 {
				v, w := like, like
				v.Kind, w.Kind = first, second
				if first == second {
					cuts(t, values(v, w), numbers(2), values(bare(v)))
					refuses(t, numbers(1, 1), values(v, w))
					continue
				}
				cuts(t, values(v, w), numbers(1, 1), values(bare(v), bare(w)))
				joins(t, numbers(1, 2), values(v, w), values(bare(v), bare(w), bare(w)))
			}
		}
	}
}

// A kind that there is none of is 0: it is null, and so one with any other such.
func TestKindsThatThereAreNoneOf(t *testing.T) {
	for i, kind := range noKinds() {
		odd := api.Value{Kind: kind, I: 5 + i, B: i%2 == 0, S: "s" + strconv.Itoa(i)}
		cuts(t, values(odd), numbers(1), values(null()))
		cuts(t, values(odd, null()), numbers(2), values(null()))
		cuts(t, values(null(), odd), numbers(2), values(null()))
		cuts(t, values(num(0), odd, text("")), numbers(1, 1, 1), values(num(0), null(), text("")))
		joins(t, numbers(2), values(odd), values(null(), null()))
		joins(t, numbers(1, 1, 1), values(odd, truth(false), odd), values(null(), truth(false), null()))
		refuses(t, numbers(1, 1), values(odd, null()))
		refuses(t, numbers(1, 1), values(null(), odd))
		for _, other := range noKinds() {
			second := api.Value{Kind: other, I: -3, S: "other"}
			cuts(t, values(odd, second, odd), numbers(3), values(null()))
			refuses(t, numbers(1, 1), values(odd, second))
		}
		for _, v := range values(num(odd.I), truth(odd.B), text(odd.S), num(0), truth(false), text("")) {
			cuts(t, values(odd, v, odd), numbers(1, 1, 1), values(null(), v, null()))
			joins(t, numbers(1, 1), values(v, odd), values(v, null()))
		}
	}
}

// Texts are one by their bytes, wherever these lie.
func TestTextsInOtherMemory(t *testing.T) {
	for _, s := range []string{"a", "ab", "\x00\xff", strings.Repeat("x", api.MaxValue), strings.Repeat("y", api.MaxText)} {
		v, w := text(strings.Clone(s)), text(strings.Clone(s))
		cuts(t, values(v, w, v), numbers(3), values(v))
		refuses(t, numbers(1, 1), values(v, w))
		for _, at := range []int{0, len(s) / 2, len(s) - 1} {
			other := []byte(s)
			other[at] ^= 1
			cuts(t, values(v, text(string(other)), w), numbers(1, 1, 1), values(v, text(string(other)), v))
			joins(t, numbers(1, 1), values(v, text(string(other))), values(v, text(string(other))))
		}
	}
}

// P7.1 sizes

// Cut has no most: of how many there are it refuses nothing.
func TestCutOfMoreThanJoinAnswers(t *testing.T) {
	for _, many := range []int{api.MaxTable - 1, api.MaxTable, api.MaxTable + 1, 2*api.MaxTable + 3, api.MaxText + 1} {
		run := slices.Repeat(values(text("a")), many)
		cuts(t, run, numbers(many), values(text("a")))
		each := unlike(many)
		cuts(t, each, ones(many), each)
		pair := append(slices.Clone(run), num(1))
		cuts(t, pair, numbers(many, 1), values(text("a"), num(1)))
		cutsAndJoins(t, run)
		cutsAndJoins(t, each)
		cutsAndJoins(t, pair)
	}
}

// Just MaxTable, and one more, by few runs and by many.
func TestJoinToTheMost(t *testing.T) {
	each := unlike(api.MaxTable + 1)
	for _, size := range []int{1, 2, 3, 64, 1000, api.MaxTable - 1, api.MaxTable} {
		vs := each[:size]
		for _, at := range []int{0, size / 2, size - 1} {
			rest := api.MaxTable - size + 1
			judged(t, changed(ones(size), at, rest), vs)
			if !mayJoin(changed(ones(size), at, rest), vs) {
				t.Errorf("%d runs that come to the most are none", size)
			}
			refuses(t, changed(ones(size), at, rest+1), vs)
			refuses(t, changed(ones(size), at, api.MaxTable+1), vs)
		}
		refuses(t, append(changed(ones(size), 0, api.MaxTable-size+1), 1), each[:size+1])
	}
	refuses(t, numbers(api.MaxTable+1), values(null()))
	refuses(t, numbers(api.MaxTable, 1), values(num(1), num(2)))
	refuses(t, numbers(1, api.MaxTable), values(num(1), num(2)))
	refuses(t, ones(api.MaxTable+1), each)
	refuses(t, ones(3*api.MaxTable), unlike(3*api.MaxTable))
	refuses(t, slices.Repeat(numbers(api.MaxTable), api.MaxTable), each[:api.MaxTable])
}

// The longest lists of the longest texts.
func TestLongTexts(t *testing.T) {
	long := strings.Repeat("x", api.MaxText)
	run := slices.Repeat(values(text(long)), api.MaxTable)
	cuts(t, run, numbers(api.MaxTable), values(text(long)))
	joins(t, numbers(api.MaxTable), values(text(long)), run)
	var each []api.Value
	for i := range api.MaxTable {
		each = append(each, text(long[:api.MaxValue-1]+string(rune('a'+i%2))))
	}
	cuts(t, each, ones(api.MaxTable), each)
	joins(t, ones(api.MaxTable), each, each)
}

// P7.1 Join: what is refused

func TestJoinRefusesListsThatAreNotAsMany(t *testing.T) {
	each := unlike(20)
	for manys := range 20 {
		for size := range 20 {
			if manys != size {
				refuses(t, ones(manys), each[:size])
			}
		}
	}
	refuses(t, nil, values(null()))
	refuses(t, numbers(), values(num(1)))
	refuses(t, numbers(1), nil)
	refuses(t, numbers(1), values())
	refuses(t, numbers(0), nil)
	refuses(t, numbers(0, 0), values())
	refuses(t, numbers(2, 0), values(num(1)))
	refuses(t, numbers(1, 1, 1), values(num(1), num(2)))
	// What lies in spare room is none.
	refuses(t, numbers(1, 1)[:1], values(num(1), num(2)))
	refuses(t, numbers(1, 1), values(num(1), num(2))[:1])
	refuses(t, numbers(api.MaxTable), unlike(api.MaxTable))
	refuses(t, ones(api.MaxTable), unlike(api.MaxTable-1))
}

func TestJoinRefusesNumbersBelowOne(t *testing.T) {
	for _, below := range []int{0, -1, -2, -5, -4096, -4097, -1 << 31, -1 << 32, -1<<32 + 1, -1 << 62, math.MinInt, math.MinInt + 1} {
		for size := 1; size < 6; size++ {
			for at := range size {
				refuses(t, changed(ones(size), at, below), unlike(size))
				refuses(t, changed(slices.Repeat(numbers(7), size), at, below), unlike(size))
			}
		}
		// One that is far greater brings the sum back to what has room.
		refuses(t, numbers(below, api.MaxTable), values(num(1), num(2)))
		refuses(t, numbers(api.MaxTable, below), values(num(1), num(2)))
		refuses(t, numbers(-below, below, 1), values(num(1), num(2), num(3)))
		refuses(t, numbers(1, 2-below, below), values(num(1), num(2), num(3)))
	}
	last := ones(api.MaxTable)
	last[api.MaxTable-1] = 0
	refuses(t, last, unlike(api.MaxTable))
}

func TestJoinRefusesNeighboursThatAreOne(t *testing.T) {
	for _, v := range values(null(), num(0), num(7), num(math.MaxInt), num(math.MinInt), truth(false), truth(true), text(""), text("a"), text("\xff\x00")) {
		refuses(t, numbers(1, 1), values(v, v))
		refuses(t, numbers(5, 3), values(v, v))
		refuses(t, numbers(1, 1, 1), values(v, v, v))
		refuses(t, numbers(1, 1, 1), values(v, v, text("z")))
		refuses(t, numbers(1, 1, 1), values(text("z"), v, v))
		refuses(t, numbers(2, 1, 3, 1), values(text("z"), v, v, text("z")))
		joins(t, numbers(1, 1, 1), values(v, text("z"), v), values(v, text("z"), v))
		many, each := ones(api.MaxTable), unlike(api.MaxTable)
		each[api.MaxTable-2], each[api.MaxTable-1] = v, v
		refuses(t, many, each)
	}
}

// Numbers that come to no int, or beyond it back to one that has room.
func TestJoinRefusesSumsThatAreNoInt(t *testing.T) {
	for _, many := range [][]int{
		{math.MaxInt}, {math.MaxInt - 1}, {1 << 62}, {1 << 32}, {1<<32 + 1}, {1 << 31}, {1 << 16}, {1<<16 + 1},
		{math.MaxInt, 1}, {1, math.MaxInt}, {math.MaxInt, math.MaxInt}, {math.MaxInt, math.MaxInt, 2}, {math.MaxInt, math.MaxInt, 3},
		{2, math.MaxInt, math.MaxInt}, {3, math.MaxInt, math.MaxInt}, {math.MaxInt, 2, math.MaxInt}, {math.MaxInt, 5, math.MaxInt, 1000},
		{1 << 62, 1 << 62}, {1 << 62, 1 << 62, 1 << 62, 1 << 62}, {1 << 62, 1 << 62, 1 << 62, 1 << 62, 1}, {1, 1 << 62, 1 << 62, 1 << 62, 1 << 62},
		{1 << 62, 1<<62 - 1}, {1<<62 + 1, 1 << 62}, {1 << 31, 1 << 31}, {1 << 32, 1 << 32, 1}, {1<<63 - 4096, 1<<63 - 1, 4100}, {4096, math.MaxInt, math.MaxInt},
	} {
		refuses(t, many, unlike(len(many)))
	}
}

// Every list of at most three runs out of a few numbers and values.
func TestShortRuns(t *testing.T) {
	few := values(null(), num(1), truth(true), text("a"), api.Value{Kind: 2, B: true, S: "a"}, api.Value{Kind: -1, I: 1})
	sizes := numbers(1, 2, 0, -1, math.MinInt, api.MaxTable-2, api.MaxTable, math.MaxInt)
	type pair struct {
		many []int
		vs   []api.Value
	}
	pairs := []pair{{}}
	for at := 0; at < len(pairs); at++ {
		p := pairs[at]
		judged(t, p.many, p.vs)
		if len(p.vs) > 0 {
			judged(t, p.many, p.vs[1:])
			judged(t, p.many[1:], p.vs)
		}
		if len(p.vs) == 3 {
			continue
		}
		for _, x := range sizes {
			for _, v := range few {
				// Where a run is at fault already, or the most is reached, some of what may follow tells enough.
				if len(p.vs) == 2 && v != few[0] && v != few[1] {
					continue
				}
				pairs = append(pairs, pair{append(slices.Clone(p.many), x), append(slices.Clone(p.vs), v)})
			}
		}
	}
}

func TestRolledRuns(t *testing.T) {
	roll := dice(2)
	for range 6000 {
		var many []int
		var vs []api.Value
		for range roll() % 6 {
			many = append(many, int(roll()%30)+1)
			vs = append(vs, rolled(roll))
		}
		for i := range many {
			switch roll() % 40 {
			case 0:
				many[i] = -int(roll() % 3)
			case 1:
				many[i] = api.MaxTable - int(roll()%60)
			}
		}
		judged(t, many, vs)
	}
}

// The rules of all calls

// R4: neither the lists nor what stands ahead of them or in their spare room is written to.
func TestListsStayAsTheyWere(t *testing.T) {
	roll := dice(3)
	full := api.Value{Kind: 9, I: 3, B: true, S: "spare"}
	for range 500 {
		held := slices.Concat(values(full, full), rolledList(roll, 12), values(full, num(1), full))
		was := slices.Clone(held)
		runs.Cut(held[2 : len(held)-3])
		runs.Cut(held[2:2])
		runs.Cut(held)
		if !slices.Equal(held, was) {
			t.Errorf("%s became %s", tell(was), tell(held))
		}
		heldMany := numbers(-7, -8)
		for range held {
			heldMany = append(heldMany, int(roll()%5))
		}
		wasMany := slices.Clone(heldMany)
		for end := 3; end < len(held); end++ {
			runs.Join(heldMany[2:end], held[2:end])
			runs.Join(heldMany[2:end], held[3:end])
		}
		if !slices.Equal(held, was) || !slices.Equal(heldMany, wasMany) {
			t.Errorf("%s, %s became %s, %s", tellMany(wasMany), tell(was), tellMany(heldMany), tell(held))
		}
	}
	for _, k := range byHand() {
		many := append(slices.Clone(k.many), -5, -6)
		each := append(slices.Clone(k.each), full, full)
		runs.Join(many[:len(k.many)], each[:len(k.each)])
		if !slices.Equal(many, append(slices.Clone(k.many), -5, -6)) || !slices.Equal(each, append(slices.Clone(k.each), full, full)) {
			t.Errorf("%s, %s became %s, %s", tellMany(k.many), tell(k.each), tellMany(many), tell(each))
		}
	}
}

// ownText answers a text value whose memory is the bytes held.
func ownText(held []byte) api.Value {
	return text(unsafe.String(&held[0], len(held)))
}

// R4: what becomes of a list or of a text's memory later on is not seen in what was answered, nor is it written to.
func TestArgumentsAreNotKept(t *testing.T) {
	for _, s := range []string{"a", "abc", strings.Repeat("x", api.MaxValue), strings.Repeat("y", api.MaxText)} {
		held := []byte(s)
		given := values(ownText(held), ownText(held), num(1), ownText(held))
		many, each := runs.Cut(given)
		sizes, plain := numbers(2, 1, 1), values(ownText(held), num(1), ownText(held))
		joined, _ := runs.Join(sizes, plain)
		if string(held) != s {
			t.Errorf("a text of %d bytes was written to", len(s))
		}
		for i := range held {
			held[i] ^= 0xff
		}
		for i := range given {
			given[i] = num(9)
		}
		for i := range plain {
			sizes[i], plain[i] = 9, num(9)
		}
		if !slices.Equal(many, numbers(2, 1, 1)) || !slices.Equal(each, values(text(s), num(1), text(s))) {
			t.Errorf("Cut became %s, %s", tellMany(many), tell(each))
		}
		if !slices.Equal(joined, values(text(s), text(s), num(1), text(s))) {
			t.Errorf("Join became %s", tell(joined))
		}
	}
	for _, k := range byHand() {
		given := slices.Clone(k.vs)
		many, each := runs.Cut(given)
		sizes, plain := slices.Clone(k.many), slices.Clone(k.each)
		joined, _ := runs.Join(sizes, plain)
		for i := range given {
			given[i] = text("other")
		}
		for i := range plain {
			sizes[i], plain[i] = -1, text("other")
		}
		if !slices.Equal(many, k.many) || !slices.Equal(each, k.each) || !slices.Equal(joined, k.vs) {
			t.Errorf("became %s, %s, %s, not %s, %s, %s", tellMany(many), tell(each), tell(joined), tellMany(k.many), tell(k.each), tell(k.vs))
		}
	}
}

// span is where memory begins, and where it ends.
type span struct{ from, to uintptr }

// spanOfMany answers the memory of numbers, with their spare room.
func spanOfMany(many []int) span {
	from := uintptr(unsafe.Pointer(unsafe.SliceData(many)))
	return span{from, from + uintptr(cap(many))*unsafe.Sizeof(0)}
}

// spanOfValues answers the memory of values, with their spare room.
func spanOfValues(vs []api.Value) span {
	from := uintptr(unsafe.Pointer(unsafe.SliceData(vs)))
	return span{from, from + uintptr(cap(vs))*unsafe.Sizeof(api.Value{})}
}

// apart asks that no two of the spans meet.
func apart(t *testing.T, spans ...span) {
	t.Helper()
	for i, first := range spans {
		for _, second := range spans[:i] {
			if first.from < second.to && second.from < first.to {
				t.Errorf("%v and %v meet", first, second)
			}
		}
	}
}

// textsApart asks that no text of one list lies in the memory of another's.
func textsApart(t *testing.T, vs []api.Value, ws []api.Value) {
	t.Helper()
	for _, v := range vs {
		for _, w := range ws {
			if v.S != "" && unsafe.StringData(v.S) == unsafe.StringData(w.S) {
				t.Fatalf("%s and %s share a text", tell(vs), tell(ws))
			}
		}
	}
}

// R4: no list of an answer lies in an argument's memory, in another answer's, nor in its fellow's.
func TestMemoryIsApart(t *testing.T) {
	lists := [][]api.Value{unlike(7), slices.Repeat(values(text("a")), 5)}
	for _, k := range byHand() {
		lists = append(lists, k.vs)
	}
	for _, vs := range lists {
		many, each := runs.Cut(vs)
		again, other := runs.Cut(vs)
		joined, _ := runs.Join(many, each)
		second, _ := runs.Join(many, each)
		apart(t, spanOfValues(vs), spanOfMany(many), spanOfValues(each), spanOfMany(again), spanOfValues(other), spanOfValues(joined), spanOfValues(second))
		textsApart(t, vs, each)
		textsApart(t, vs, other)
		textsApart(t, each, other)
		textsApart(t, each, joined)
		textsApart(t, joined, second)
	}
}

// R4: what is written into one answer, its spare room too, is not seen in another, nor in its fellow.
func TestAnswersAreApart(t *testing.T) {
	for _, k := range byHand() {
		many, each := runs.Cut(k.vs)
		again, other := runs.Cut(k.vs)
		joined, _ := runs.Join(k.many, k.each)
		second, _ := runs.Join(k.many, k.each)
		for i := range many[:cap(many)] {
			many[:cap(many)][i] = -5
		}
		if !slices.Equal(each, k.each) {
			t.Errorf("%s became %s", tell(k.each), tell(each))
		}
		for i := range each[:cap(each)] {
			each[:cap(each)][i] = text("other")
		}
		for i := range joined[:cap(joined)] {
			joined[:cap(joined)][i] = text("other")
		}
		if !slices.Equal(again, k.many) || !slices.Equal(other, k.each) || !slices.Equal(second, k.vs) {
			t.Errorf("became %s, %s, %s", tellMany(again), tell(other), tell(second))
		}
		cuts(t, k.vs, k.many, k.each)
		joins(t, k.many, k.each, k.vs)
	}
}

// R5: what was asked ahead plays no part, whoever asks at the same time, of the same lists even.
func TestSameAnswersEachTime(t *testing.T) {
	var group sync.WaitGroup
	ks := byHand()
	for turn := range 8 {
		group.Go(func() {
			for i := range 20 * len(ks) {
				k := ks[(i+turn*5)%len(ks)]
				cuts(t, k.vs, k.many, k.each)
				joins(t, k.many, k.each, k.vs)
				refuses(t, append(slices.Clone(k.many), 1), k.each)
				refuses(t, append(slices.Clone(k.many), 0), append(slices.Clone(k.each), text("last")))
			}
		})
	}
	group.Wait()
}
