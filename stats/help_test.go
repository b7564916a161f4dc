package stats_test

import (
	"encoding/binary"
	"math"
	"math/rand/v2"
	"slices"
	"strconv"
	"strings"
	"testing"

	"boathouse/api"
	"boathouse/stats"
)

// null, num, truth, text answer values with their kind's field alone.
func null() api.Value         { return api.Value{} }
func num(x int) api.Value     { return api.Value{Kind: api.KindInt, I: x} }
func truth(b bool) api.Value  { return api.Value{Kind: api.KindBool, B: b} }
func text(s string) api.Value { return api.Value{Kind: api.KindText, S: s} }

// values is short for a list.
func values(vs ...api.Value) []api.Value { return vs }

// times answers a value so often.
func times(many int, v api.Value) []api.Value { return slices.Repeat(values(v), many) }

// numbers answers a value for each number.
func numbers(xs ...int) []api.Value {
	var vs []api.Value
	for _, x := range xs {
		vs = append(vs, num(x))
	}
	return vs
}

// texts answers a value for each text.
func texts(all ...string) []api.Value {
	var vs []api.Value
	for _, s := range all {
		vs = append(vs, text(s))
	}
	return vs
}

// stat is short for statistics.
func stat(col int, nulls int, least api.Value, greatest api.Value) api.Stat {
	return api.Stat{Col: col, Nulls: nulls, Min: least, Max: greatest}
}

// bare answers statistics without bounds.
func bare(col int, nulls int) api.Stat { return api.Stat{Col: col, Nulls: nulls} }

// cols are the Ids that the tests ask with.
func cols() []int {
	return []int{0, 1, 2, 7, -1, -4, 255, 256, 1 << 32, -1 << 32, math.MaxInt, math.MaxInt - 1, math.MinInt, math.MinInt + 1}
}

// noKinds are kinds that there are none of, some with lowest bits that are a kind's.
func noKinds() []int {
	all := []int{4, 5, 6, 7, 8, 9, 255, 256, 257, 258, 259, -1, -2, -3, -4, math.MaxInt, math.MaxInt - 1, math.MinInt, math.MinInt + 1, math.MinInt + 2, math.MinInt + 3}
	for bit := 16; bit < 63; bit += 8 {
		for low := range api.KindText + 1 {
			all = append(all, 1<<bit+low, -1<<bit+low)
		}
	}
	return all
}

// ranked answers values of each kind in their order, null alone left out.
func ranked() []api.Value {
	return slices.Concat(
		numbers(math.MinInt, math.MinInt+1, -1<<32, -256, -2, -1, 0, 1, 2, 255, 256, 1<<32, math.MaxInt-1, math.MaxInt),
		values(truth(false), truth(true)),
		texts("", "\x00", "\x00\x00", "\x01", "10", "2", "A", "B", "a", "a\x00", "aa", "ab", "abc", "b", strings.Repeat("x", api.MaxValue), strings.Repeat("x", api.MaxValue+1), "\x80", "é", "日", "\uffff", "\U0010ffff", "\xff", "\xff\x00", "\xff\xff"),
	)
}

// clothed answers values with the same kind's field as v, and with others in those that the kind doesn't name.
func clothed(v api.Value) []api.Value {
	var all []api.Value
	for _, other := range values(api.Value{}, api.Value{I: 1}, api.Value{B: true}, api.Value{S: "x"}, api.Value{I: math.MaxInt, B: true, S: "\xff"}, api.Value{I: math.MinInt, B: true, S: "\x00"}) {
		w := v
		if v.Kind != api.KindInt {
			w.I = other.I
		}
		if v.Kind != api.KindBool {
			w.B = other.B
		}
		if v.Kind != api.KindText {
			w.S = other.S
		}
		all = append(all, w)
	}
	return all
}

// What is to be answered, told once more without the layers below.

// key answers a text whose bytes stand in the order of values; a null's is empty.
func key(v api.Value) string {
	switch v.Kind {
	case 1:
		return "1" + string(binary.BigEndian.AppendUint64(nil, uint64(v.I)+1<<63))
	case 2:
		return "2" + strconv.FormatBool(v.B)
	case 3:
		return "3" + v.S
	}
	return ""
}

// unkey answers the value of a key.
func unkey(s string) api.Value {
	switch {
	case s == "":
		return null()
	case s[0] == '1':
		return num(int(binary.BigEndian.Uint64([]byte(s[1:])) - 1<<63))
	case s[0] == '2':
		return truth(s[1:] == "true")
	}
	return text(s[1:])
}

// sorted answers the keys of those values that are not null, the least first, and how many others there are.
func sorted(vs ...api.Value) ([]string, int) {
	var keys []string
	for _, v := range vs {
		if s := key(v); s != "" {
			keys = append(keys, s)
		}
	}
	slices.Sort(keys)
	return keys, len(vs) - len(keys)
}

// told answers a list's statistics by sorting it.
func told(col int, vs []api.Value) api.Stat {
	keys, nulls := sorted(vs...)
	if len(keys) == 0 {
		return bare(col, nulls)
	}
	return stat(col, nulls, unkey(keys[0]), unkey(keys[len(keys)-1]))
}

// toldOfBoth answers what is to come of two statistics, whatever they hold.
func toldOfBoth(a api.Stat, b api.Stat) api.Stat {
	s := bare(a.Col, a.Nulls+b.Nulls)
	if least, _ := sorted(a.Min, b.Min); len(least) > 0 {
		s.Min = unkey(least[0])
	}
	if greatest, _ := sorted(a.Max, b.Max); len(greatest) > 0 {
		s.Max = unkey(greatest[len(greatest)-1])
	}
	return s
}

// What the tests ask.

// tellOne cuts what a fault tells of a value.
func tellOne(v api.Value) string {
	return "{" + strconv.Itoa(v.Kind) + " " + strconv.Itoa(v.I) + " " + strconv.FormatBool(v.B) + " " + strconv.QuoteToASCII(v.S[:min(len(v.S), 12)]) + "}"
}

// tell cuts what a fault tells of values.
func tell(vs []api.Value) string {
	said := strconv.Itoa(len(vs)) + " values:"
	for _, v := range vs[:min(len(vs), 12)] {
		said += " " + tellOne(v)
	}
	return said
}

// tellStat cuts what a fault tells of statistics.
func tellStat(s api.Stat) string {
	return strconv.Itoa(s.Col) + ": " + strconv.Itoa(s.Nulls) + " nulls, " + tellOne(s.Min) + " to " + tellOne(s.Max)
}

// asks asks for a list's statistics.
func asks(t *testing.T, col int, vs []api.Value, want api.Stat) {
	t.Helper()
	if got := stats.Of(col, vs); got != want {
		t.Errorf("Of(%d, %s): %s, not %s", col, tell(vs), tellStat(got), tellStat(want))
	}
}

// joins asks for the statistics of two lists put together.
func joins(t *testing.T, a api.Stat, b api.Stat, want api.Stat) {
	t.Helper()
	if got := stats.Join(a, b); got != want {
		t.Errorf("Join(%s; %s): %s, not %s", tellStat(a), tellStat(b), tellStat(got), tellStat(want))
	}
}

// joinsEitherWay asks for the statistics of two lists put together, in both orders: only Col hangs on it.
func joinsEitherWay(t *testing.T, a api.Stat, b api.Stat, want api.Stat) {
	t.Helper()
	joins(t, a, b, want)
	want.Col = b.Col
	joins(t, b, a, want)
}

// ofEachList asks for each list of at most so many of the values.
func ofEachList(few []api.Value, most int, ask func(vs []api.Value)) {
	lists := [][]api.Value{nil}
	for at := 0; at < len(lists); at++ {
		ask(lists[at])
		if len(lists[at]) == most {
			continue
		}
		for _, v := range few {
			lists = append(lists, append(slices.Clone(lists[at]), v))
		}
	}
}

// rolls answers numbers that are the same in each run.
func rolls(seed uint64) *rand.Rand {
	return rand.New(rand.NewPCG(seed, 10))
}

// rolledValue answers any value: of each kind and of none, some with fields that their kind doesn't name.
func rolledValue(r *rand.Rand) api.Value {
	switch r.IntN(5) {
	case 0:
		odd := noKinds()
		return values(null(), api.Value{I: 1, B: true, S: "x"}, api.Value{Kind: odd[r.IntN(len(odd))], I: -5, S: "\xff"})[r.IntN(3)]
	case 1:
		return num(int(r.Uint64()) >> r.IntN(64))
	case 2:
		return text(strings.Repeat("é\xff", r.IntN(4)) + string([]byte{byte(r.IntN(256))}))
	}
	few := ranked()
	all := clothed(few[r.IntN(len(few))])
	return all[r.IntN(len(all))]
}

// rolled answers at most so many values: any, of one kind, or out of few.
func rolled(r *rand.Rand, most int) []api.Value {
	shape, kind := r.IntN(3), 1+r.IntN(api.KindText)
	pool := values(rolledValue(r), rolledValue(r), rolledValue(r))
	var vs []api.Value
	for range r.IntN(most + 1) {
		v := rolledValue(r)
		if shape == 1 && key(v) != "" {
			v.Kind = kind
		}
		if shape == 2 {
			v = pool[r.IntN(len(pool))]
		}
		vs = append(vs, v)
	}
	return vs
}

// rolledStat answers statistics that a list may or may not give.
func rolledStat(r *rand.Rand) api.Stat {
	all := cols()
	return stat(all[r.IntN(len(all))], int(r.Uint64())>>(2+r.IntN(62)), rolledValue(r), rolledValue(r))
}
