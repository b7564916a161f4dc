package words_test

import (
	"math"
	"math/rand/v2"
	"slices"
	"strconv"
	"strings"
	"sync"
	"testing"
	"unsafe"

	"boathouse/api"
	"boathouse/words"
)

// null, num, truth, text answer values with their kind's field alone.
func null() api.Value         { return api.Value{} }
func num(x int) api.Value     { return api.Value{Kind: api.KindInt, I: x} }
func truth(b bool) api.Value  { return api.Value{Kind: api.KindBool, B: b} }
func text(s string) api.Value { return api.Value{Kind: api.KindText, S: s} }

// values, places are short for lists.
func values(vs ...api.Value) []api.Value { return vs }
func places(at ...int) []int             { return at }

// known is a list of values with its words and places, written by hand.
type known struct {
	vs []api.Value
	ws []api.Value
	at []int
}

// byHand are lists as Build tells them.
func byHand() []known {
	yes, no, a, b, e := truth(true), truth(false), text("a"), text("b"), text("")
	return []known{
		{nil, nil, nil},
		{values(null()), values(null()), places(0)},
		{values(num(5)), values(num(5)), places(0)},
		{values(no), values(no), places(0)},
		{values(a), values(a), places(0)},
		// Each once: the words stand in the row of the values, whatever their order is.
		{values(num(2), num(1)), values(num(2), num(1)), places(0, 1)},
		{values(num(1), num(2), num(3)), values(num(1), num(2), num(3)), places(0, 1, 2)},
		{values(b, a, yes, num(1), null(), no), values(b, a, yes, num(1), null(), no), places(0, 1, 2, 3, 4, 5)},
		// Often, next to one another.
		{values(num(5), num(5), num(5)), values(num(5)), places(0, 0, 0)},
		{values(no, no, yes, yes), values(no, yes), places(0, 0, 1, 1)},
		{values(null(), null(), a, a, a, null()), values(null(), a), places(0, 0, 1, 1, 1, 0)},
		// Often, far from one another.
		{values(num(1), num(2), num(1)), values(num(1), num(2)), places(0, 1, 0)},
		{values(b, a, b, a, b), values(b, a), places(0, 1, 0, 1, 0)},
		{values(num(3), num(1), num(2), num(1), num(3), num(4), num(2)), values(num(3), num(1), num(2), num(4)), places(0, 1, 2, 1, 0, 3, 2)},
		{values(a, null(), yes, num(7), no, a, num(7), null(), b), values(a, null(), yes, num(7), no, b), places(0, 1, 2, 3, 4, 0, 3, 1, 5)},
		// Noughts of each kind are unlike, and what is told by like signs too.
		{values(null(), num(0), no, e, e, no, num(0), null()), values(null(), num(0), no, e), places(0, 1, 2, 3, 3, 2, 1, 0)},
		{values(text("1"), num(1), yes, text("true"), num(1)), values(text("1"), num(1), yes, text("true")), places(0, 1, 2, 3, 1)},
		// Numbers that are nearly one.
		{values(num(1), num(-1), num(1), num(0)), values(num(1), num(-1), num(0)), places(0, 1, 0, 2)},
		{values(num(7), num(7+1<<32), num(7+1<<62), num(7)), values(num(7), num(7+1<<32), num(7+1<<62)), places(0, 1, 2, 0)},
		{values(num(math.MaxInt), num(math.MinInt), num(math.MaxInt), num(-1)), values(num(math.MaxInt), num(math.MinInt), num(-1)), places(0, 1, 0, 2)},
		// Texts that are nearly one: any bytes are a text.
		{values(a, text("A"), text("ab"), text("a\x00"), a), values(a, text("A"), text("ab"), text("a\x00")), places(0, 1, 2, 3, 0)},
		{values(e, text("\x00"), text("\x00\x00"), e), values(e, text("\x00"), text("\x00\x00")), places(0, 1, 2, 0)},
		{values(text("\xff"), text("\xfe"), text("\ufffd"), text("\xff")), values(text("\xff"), text("\xfe"), text("\ufffd")), places(0, 1, 2, 0)},
		{values(text("é"), text("e\u0301"), text("é")), values(text("é"), text("e\u0301")), places(0, 1, 0)},
	}
}

// bare answers a value with what counts of it alone: two values are one just where these are equal.
func bare(v api.Value) api.Value {
	for _, w := range values(num(v.I), truth(v.B), text(v.S)) {
		if w.Kind == v.Kind {
			return w
		}
	}
	return null()
}

// bares answers values with what counts of them alone.
func bares(vs []api.Value) []api.Value {
	var all []api.Value
	for _, v := range vs {
		all = append(all, bare(v))
	}
	return all
}

// clothed answers values that are one with v, some with fields that its kind doesn't name.
func clothed(v api.Value) []api.Value {
	var all []api.Value
	for _, other := range values(null(), api.Value{I: 1}, api.Value{B: true}, api.Value{S: "x"}, api.Value{I: math.MinInt, B: true, S: "\xff"}) {
		w := v
		if v.Kind != api.KindInt {
			w.I = other.I
		}
		if v.Kind != api.KindBool {
			w.B = other.B
		}
		if v.Kind != api.KindText {
			w.S = other.S
		}
		all = append(all, w)
	}
	return all
}

// ofNoKind answers values of kinds that there are none of, each with all fields set; the lowest bits of some are a kind's.
func ofNoKind() []api.Value {
	kinds := []int{math.MinInt, math.MaxInt}
	for bit := 2; bit < 63; bit++ {
		for low := range api.KindText + 1 {
			kinds = append(kinds, 1<<bit+low, -1<<bit+low)
		}
	}
	var all []api.Value
	for i, kind := range kinds {
		all = append(all, api.Value{Kind: kind, I: i, B: i%2 == 0, S: strconv.Itoa(i)})
	}
	return all
}

// ofEachKind answers values of each kind, the edges among them.
func ofEachKind() []api.Value {
	return values(null(), num(0), num(7), num(math.MaxInt), num(math.MinInt), truth(false), truth(true), text(""), text("a"), text("\xff\x00"))
}

// placed answers a list's words and places: each value is held against the words ahead of it, one by one.
func placed(vs []api.Value) ([]api.Value, []int) {
	var ws []api.Value
	var at []int
	for _, v := range vs {
		place := slices.Index(ws, bare(v))
		if place < 0 {
			place = len(ws)
			ws = append(ws, bare(v))
		}
		at = append(at, place)
	}
	return ws, at
}

// mayLook tells whether the promise lets Look answer.
func mayLook(ws []api.Value, at []int) bool {
	for i, w := range ws {
		if slices.Contains(bares(ws[:i]), bare(w)) {
			return false
		}
	}
	for _, place := range at {
		if place < 0 || place > len(ws)-1 {
			return false
		}
	}
	return true
}

// unlike answers so many values of which no two are one.
func unlike(many int) []api.Value {
	vs := make([]api.Value, many)
	for i := range vs {
		vs[i] = num(many/2 - i)
		if i%2 == 0 {
			vs[i] = text("t" + strconv.Itoa(i))
		}
	}
	return vs
}

// upTo answers the places from 0 on, so many.
func upTo(many int) []int {
	at := make([]int, many)
	for i := range at {
		at[i] = i
	}
	return at
}

// rolls answers numbers that are the same in each run.
func rolls(seed uint64) *rand.Rand {
	return rand.New(rand.NewPCG(seed, 8))
}

// rolled answers at most so many values out of few, so that like ones meet; some have fields that their kind doesn't name.
func rolled(r *rand.Rand, most int) []api.Value {
	few := append(ofEachKind(), api.Value{Kind: 4, I: 1}, api.Value{Kind: -1, S: "a"}, api.Value{I: 1, B: true})
	var vs []api.Value
	for range r.IntN(most + 1) {
		all := clothed(few[r.IntN(len(few))])
		vs = append(vs, all[r.IntN(len(all))])
	}
	return vs
}

// tell cuts what a fault tells of values.
func tell(vs []api.Value) string {
	told := strconv.Itoa(len(vs)) + " values:"
	for _, v := range vs[:min(len(vs), 12)] {
		told += " {" + strconv.Itoa(v.Kind) + " " + strconv.Itoa(v.I) + " " + strconv.FormatBool(v.B) + " " + strconv.QuoteToASCII(v.S[:min(len(v.S), 12)]) + "}"
	}
	return told
}

// tellPlaces cuts what a fault tells of places.
func tellPlaces(at []int) string {
	told := strconv.Itoa(len(at)) + " places:"
	for _, place := range at[:min(len(at), 12)] {
		told += " " + strconv.Itoa(place)
	}
	return told
}

// builds asks for a list's words and places.
func builds(t *testing.T, vs []api.Value, ws []api.Value, at []int) {
	t.Helper()
	if gotWs, gotAt := words.Build(vs); !slices.Equal(gotWs, ws) || !slices.Equal(gotAt, at) {
		t.Errorf("Build(%s): %s; %s; not %s; %s", tell(vs), tell(gotWs), tellPlaces(gotAt), tell(ws), tellPlaces(at))
	}
}

// looks asks for the words at places.
func looks(t *testing.T, ws []api.Value, at []int, want []api.Value) {
	t.Helper()
	if got, e := words.Look(ws, at); !slices.Equal(got, want) || e != api.OK {
		t.Errorf("Look(%s; %s): %s, %d, not %s", tell(ws), tellPlaces(at), tell(got), e, tell(want))
	}
}

// refuses asks for the error, and for nothing beside it.
func refuses(t *testing.T, ws []api.Value, at []int) {
	t.Helper()
	if got, e := words.Look(ws, at); len(got) != 0 || e != api.ErrWordsForm {
		t.Errorf("Look(%s; %s): %s, %d", tell(ws), tellPlaces(at), tell(got), e)
	}
}

// thereAndBack asks for a list's words and places, as the test's own walk tells them, and for the list again.
func thereAndBack(t *testing.T, vs []api.Value) {
	t.Helper()
	ws, at := placed(vs)
	builds(t, vs, ws, at)
	looks(t, ws, at, bares(vs))
}

// judged asks Look for what follows from the words of the promise.
func judged(t *testing.T, ws []api.Value, at []int) {
	t.Helper()
	if !mayLook(ws, at) {
		refuses(t, ws, at)
		return
	}
	var want []api.Value
	for _, place := range at {
		want = append(want, bare(ws[place]))
	}
	looks(t, ws, at, want)
}

// P8.1 Build and Look: what belongs together

func TestByHand(t *testing.T) {
	for _, k := range byHand() {
		builds(t, k.vs, k.ws, k.at)
		looks(t, k.ws, k.at, k.vs)
		// The test's own walk tells of them what is written by hand.
		if ws, at := placed(k.vs); !slices.Equal(ws, k.ws) || !slices.Equal(at, k.at) || !mayLook(ws, at) {
			t.Errorf("%s: %s; %s", tell(k.vs), tell(ws), tellPlaces(at))
		}
	}
}

func TestNothing(t *testing.T) {
	builds(t, nil, nil, nil)
	builds(t, values(), nil, nil)
	builds(t, values(num(1), num(1))[:0], nil, nil)
	for _, at := range [][]int{nil, places(), places(-1)[:0]} {
		looks(t, nil, at, nil)
		looks(t, values(), at, nil)
		looks(t, values(num(1), num(1))[:0], at, nil)
		// Words that no place is asked for.
		looks(t, values(null()), at, nil)
		looks(t, values(num(1), text("a"), truth(true)), at, nil)
	}
}

// Every list of at most five values out of seven.
func TestShortLists(t *testing.T) {
	few := values(null(), num(0), truth(false), text(""), text("a"), api.Value{Kind: 1, S: "a"}, api.Value{Kind: 7, I: 3})
	lists := [][]api.Value{nil}
	for at := 0; at < len(lists); at++ {
		vs := lists[at]
		thereAndBack(t, vs)
		if len(vs) == 5 {
			continue
		}
		for _, v := range few {
			lists = append(lists, append(slices.Clone(vs), v))
		}
	}
}

func TestRolledLists(t *testing.T) {
	r := rolls(1)
	for range 5000 {
		thereAndBack(t, rolled(r, 60))
	}
}

// A value that comes again at each distance.
func TestEachDistance(t *testing.T) {
	between := unlike(600)
	for _, v := range values(null(), num(1000), truth(true), text("abc")) {
		for size := range between {
			vs := slices.Concat(values(v), between[:size], values(v))
			builds(t, vs, vs[:size+1], append(upTo(size+1), 0))
		}
	}
}

// P8.1 and chapter 7: when values are one

// Fields that the kind doesn't name neither part values nor stand in what is answered (R2).
func TestFieldsThatTheKindDoesNotName(t *testing.T) {
	for _, v := range ofEachKind() {
		all := clothed(v)
		builds(t, all, values(v), make([]int, len(all)))
		for _, w := range all {
			builds(t, values(w), values(v), places(0))
			builds(t, values(v, text("else"), w), values(v, text("else")), places(0, 1, 0))
			builds(t, values(w, text("else"), v), values(v, text("else")), places(0, 1, 0))
			looks(t, values(w), places(0, 0), values(v, v))
			looks(t, values(text("else"), w), places(1, 0, 1), values(v, text("else"), v))
			refuses(t, values(v, w), places(0))
			refuses(t, values(w, v), places(1))
			refuses(t, values(w, text("else"), v), nil)
		}
	}
}

// Values with like fields are unlike by their kinds.
func TestLikeFieldsOfOtherKinds(t *testing.T) {
	for _, like := range values(null(), api.Value{I: 1, B: true, S: "1"}, api.Value{I: -1, S: "\xff"}, api.Value{B: true}) {
		var all []api.Value
		for kind := range api.KindText + 1 {
			v := like
			v.Kind = kind
			all = append(all, v)
		}
		builds(t, slices.Repeat(all, 3), bares(all), slices.Repeat(upTo(len(all)), 3))
		looks(t, all, places(3, 0, 2, 1, 3), bares(values(all[3], all[0], all[2], all[1], all[3])))
	}
}

// A kind that there is none of is null, whichever it is and whatever its fields hold.
func TestKindsThatThereAreNoneOf(t *testing.T) {
	all := ofNoKind()
	builds(t, all, values(null()), make([]int, len(all)))
	builds(t, append(values(null()), all...), values(null()), make([]int, len(all)+1))
	for i, odd := range all {
		other := all[(i*7+5)%len(all)]
		builds(t, values(odd), values(null()), places(0))
		builds(t, values(null(), num(0), odd), values(null(), num(0)), places(0, 1, 0))
		builds(t, values(odd, text(""), null(), other), values(null(), text("")), places(0, 1, 0, 0))
		builds(t, values(num(odd.I), odd, truth(odd.B), text(odd.S)), values(num(odd.I), null(), truth(odd.B), text(odd.S)), upTo(4))
		looks(t, values(odd), places(0, 0), values(null(), null()))
		looks(t, values(num(odd.I), odd, truth(odd.B), text(odd.S)), places(1, 3, 2, 0), values(null(), text(odd.S), truth(odd.B), num(odd.I)))
		refuses(t, values(odd, null()), nil)
		refuses(t, values(null(), num(0), odd), places(1))
		refuses(t, values(odd, text("a"), all[(i+1)%len(all)]), places(0))
		refuses(t, values(odd, odd), places(0))
	}
}

// Texts are one by their bytes, wherever these lie.
func TestTextsInOtherMemory(t *testing.T) {
	for _, s := range []string{"a", "ab", "\x00\xff", strings.Repeat("x", api.MaxValue), strings.Repeat("y", api.MaxText)} {
		v, w := text(strings.Clone(s)), text(strings.Clone(s))
		builds(t, values(v, num(1), w), values(v, num(1)), places(0, 1, 0))
		refuses(t, values(v, w), nil)
		for _, at := range []int{0, len(s) / 2, len(s) - 1} {
			turned := []byte(s)
			turned[at] ^= 1
			near := text(string(turned))
			builds(t, values(v, near, w, near), values(v, near), places(0, 1, 0, 1))
			looks(t, values(v, near), places(1, 0), values(near, v))
		}
	}
}

// P8.1 Look: places

// Words stand in any row, and places in any row and as often as one likes.
func TestPlacesInAnyRow(t *testing.T) {
	for _, size := range []int{1, 2, 3, 10, 200} {
		ws := unlike(size)
		for place := range ws {
			looks(t, ws, places(place), ws[place:place+1])
		}
		looks(t, ws, places(0, size-1, 0, size-1), values(ws[0], ws[size-1], ws[0], ws[size-1]))
		looks(t, ws, slices.Repeat(upTo(size), 5), slices.Repeat(ws, 5))
		looks(t, ws, slices.Repeat(places(size-1), 1000), slices.Repeat(ws[size-1:], 1000))
		backwards, turned := upTo(size), slices.Clone(ws)
		slices.Reverse(backwards)
		slices.Reverse(turned)
		looks(t, ws, backwards, turned)
		looks(t, turned, backwards, ws)
	}
}

// Every list of at most two words and three places out of a few.
func TestShortLooks(t *testing.T) {
	few := values(null(), num(1), truth(true), text("a"), api.Value{Kind: 2, B: true, S: "a"}, api.Value{Kind: -1, I: 1})
	lists := [][]int{nil}
	for i := 0; i < len(lists); i++ {
		at := lists[i]
		judged(t, nil, at)
		for _, w := range few {
			judged(t, values(w), at)
			for _, other := range few {
				judged(t, values(w, other), at)
			}
		}
		if len(at) == 3 {
			continue
		}
		for _, place := range []int{0, 1, 2, -1, math.MinInt, math.MaxInt} {
			lists = append(lists, append(slices.Clone(at), place))
		}
	}
}

func TestRolledLooks(t *testing.T) {
	r := rolls(2)
	for range 5000 {
		ws := rolled(r, 4)
		if r.IntN(2) == 0 {
			ws = unlike(1 + r.IntN(20))
		}
		var at []int
		for range r.IntN(30) {
			at = append(at, r.IntN(max(len(ws), 1)))
		}
		if len(at) > 0 && r.IntN(4) == 0 {
			at[r.IntN(len(at))] = []int{-1, len(ws), -1 - r.IntN(50), len(ws) + r.IntN(50)}[r.IntN(4)]
		}
		judged(t, ws, at)
	}
}

// P8.1 Look: what is refused

// wrongPlaces are places that there are none of among so many words.
func wrongPlaces(many int) []int {
	return []int{
		-1, -2, -many, -many - 1, -1 << 16, -1 << 31, -1 << 32, -1 << 62, math.MinInt, math.MinInt + 1,
		many, many + 1, many + 1<<8, many + 1<<16, many + 1<<31, 1 << 32, 1<<32 + many - 1, 1 << 62, 1<<62 + 1<<61, math.MaxInt - 1, math.MaxInt,
	}
}

func TestLookRefusesPlacesThatAreNone(t *testing.T) {
	for _, size := range []int{1, 2, 3, 16, 300} {
		ws := unlike(size)
		for _, wrong := range wrongPlaces(size) {
			refuses(t, ws, places(wrong))
			refuses(t, ws, places(wrong, 0))
			refuses(t, ws, places(0, wrong))
			refuses(t, ws, places(0, size-1, wrong, 0, size-1))
			refuses(t, ws, append(upTo(size), wrong))
			refuses(t, ws, append(places(wrong), upTo(size)...))
		}
	}
	// A place far behind, and words that lie in spare room.
	refuses(t, values(num(1)), append(make([]int, api.MaxText), 1))
	refuses(t, values(num(1), num(2))[:1], places(1))
}

func TestLookRefusesPlacesWithoutWords(t *testing.T) {
	for _, wrong := range append(wrongPlaces(0), 0, 1) {
		refuses(t, nil, places(wrong))
		refuses(t, values(), places(wrong, wrong))
		refuses(t, values(num(1))[:0], places(wrong))
	}
}

func TestLookRefusesWordsThatAreOne(t *testing.T) {
	asked := [][]int{nil, places(), places(0), places(1), places(1, 0, 1), places(-1), places(math.MinInt), places(math.MaxInt), places(0, 9999)}
	for _, v := range ofEachKind() {
		others := unlike(100)
		for _, ws := range [][]api.Value{
			{v, v}, {v, v, v}, {v, v, text("z")}, {text("z"), v, v}, {v, text("z"), v}, {text("z"), v, num(9), v}, {v, text("z"), num(9), v, truth(true)},
			slices.Concat(values(v), others, values(v)),
			slices.Concat(others, values(v, v)),
			slices.Concat(values(v, v), others),
			slices.Concat(others[:50], values(v), others[50:], values(v)),
		} {
			for _, at := range asked {
				refuses(t, ws, at)
			}
		}
	}
	// Both ends and each pair of many.
	ws := unlike(40)
	for first := range ws {
		for second := range first {
			twice := slices.Clone(ws)
			twice[first] = twice[second]
			refuses(t, twice, nil)
			refuses(t, twice, upTo(len(twice)))
		}
	}
}

// P8.1 sizes: the chapter sets no most for values, words and places

func TestSizes(t *testing.T) {
	for _, many := range []int{api.MaxTable - 1, api.MaxTable, api.MaxTable + 1, api.MaxText, api.MaxText + 1, 3 * api.MaxText} {
		ws := unlike(many)
		builds(t, ws, ws, upTo(many))
		builds(t, slices.Concat(ws, ws), ws, slices.Repeat(upTo(many), 2))
		looks(t, ws, upTo(many), ws)
		looks(t, ws, places(many-1, 0), values(ws[many-1], ws[0]))
		looks(t, ws[:3], make([]int, many), slices.Repeat(ws[:1], many))
		builds(t, slices.Repeat(values(text("a")), many), values(text("a")), make([]int, many))
		refuses(t, ws, places(many))
		refuses(t, append(slices.Clone(ws), ws[0]), nil)
		refuses(t, append(slices.Clone(ws), ws[many-1]), nil)
	}
}

// Many long texts, with what parts them at either end.
func TestLongTexts(t *testing.T) {
	long := strings.Repeat("x", api.MaxText)
	run := slices.Repeat(values(text(long)), api.MaxTable)
	builds(t, run, values(text(long)), make([]int, api.MaxTable))
	looks(t, values(text(long)), make([]int, api.MaxTable), run)
	var each []api.Value
	for i := range 64 {
		sign := string(rune(i))
		each = append(each, text(sign+long[1:]), text(long[1:]+sign))
	}
	builds(t, slices.Repeat(each, 8), each, slices.Repeat(upTo(len(each)), 8))
	looks(t, each, upTo(len(each)), each)
	refuses(t, append(each, text(strings.Clone(each[5].S))), nil)
}

// The rules of all calls

// R4: neither the lists nor what stands ahead of them or in their spare room is written to.
func TestListsStayAsTheyWere(t *testing.T) {
	r := rolls(3)
	full := api.Value{Kind: 9, I: 3, B: true, S: "spare"}
	for range 500 {
		ws := slices.Concat(values(full, full), rolled(r, 12), unlike(r.IntN(12)), values(full, num(1), full))
		at := places(-7, -8)
		for range ws {
			at = append(at, r.IntN(4))
		}
		wasWs, wasAt := slices.Clone(ws), slices.Clone(at)
		for from := range len(ws) / 2 {
			words.Build(ws[from : len(ws)-from])
			words.Look(ws[from:len(ws)-from], at[2:len(at)-1])
			words.Look(ws[from:from], at[2:2])
		}
		if !slices.Equal(ws, wasWs) || !slices.Equal(at, wasAt) {
			t.Errorf("%s; %s became %s; %s", tell(wasWs), tellPlaces(wasAt), tell(ws), tellPlaces(at))
		}
	}
	for _, k := range byHand() {
		wasWs, wasAt := append(slices.Clone(k.ws), full, full), append(slices.Clone(k.at), -5, -6)
		ws, at := slices.Clone(wasWs), slices.Clone(wasAt)
		words.Build(ws[:len(k.ws)])
		words.Look(ws[:len(k.ws)], at[:len(k.at)])
		if !slices.Equal(ws, wasWs) || !slices.Equal(at, wasAt) {
			t.Errorf("%s; %s became %s; %s", tell(wasWs), tellPlaces(wasAt), tell(ws), tellPlaces(at))
		}
	}
}

// textIn answers a text value whose memory is the bytes held.
func textIn(held []byte) api.Value {
	return text(unsafe.String(&held[0], len(held)))
}

// R4: what becomes of a list or of a text's memory later on is not seen in what was answered, nor is it written to.
func TestArgumentsAreNotKept(t *testing.T) {
	for _, s := range []string{"a", "abc", strings.Repeat("x", api.MaxValue), strings.Repeat("y", api.MaxText)} {
		held := []byte(s)
		vs := values(textIn(held), num(1), textIn(held))
		ws, at := words.Build(vs)
		given, asked := values(num(1), textIn(held)), places(1, 0, 1)
		looked, _ := words.Look(given, asked)
		if string(held) != s {
			t.Errorf("a text of %d bytes was written to", len(s))
		}
		for i := range held {
			held[i] ^= 0xff
		}
		for _, list := range [][]api.Value{vs, given} {
			for i := range list {
				list[i] = num(9)
			}
		}
		for i := range asked {
			asked[i] = 9
		}
		if !slices.Equal(ws, values(text(s), num(1))) || !slices.Equal(at, places(0, 1, 0)) {
			t.Errorf("Build became %s; %s", tell(ws), tellPlaces(at))
		}
		if !slices.Equal(looked, values(text(s), num(1), text(s))) {
			t.Errorf("Look became %s", tell(looked))
		}
	}
}

// span is where memory begins, and where it ends.
type span struct{ from, to uintptr }

// spanOf answers a list's memory, with its spare room.
func spanOf[T any](list []T) span {
	var one T
	from := uintptr(unsafe.Pointer(unsafe.SliceData(list)))
	return span{from, from + uintptr(cap(list))*unsafe.Sizeof(one)}
}

// spansOf answers the memory of values: of the list, and of each of its texts.
func spansOf(vs []api.Value) []span {
	all := []span{spanOf(vs)}
	for _, v := range vs {
		from := uintptr(unsafe.Pointer(unsafe.StringData(v.S)))
		all = append(all, span{from, from + uintptr(len(v.S))})
	}
	return all
}

// apart asks that no memory of one thing meets that of another.
func apart(t *testing.T, things ...[]span) {
	t.Helper()
	for i, thing := range things {
		for _, first := range thing {
			for _, second := range slices.Concat(things[:i]...) {
				if first.from < second.to && second.from < first.to {
					t.Errorf("%v and %v meet", first, second)
				}
			}
		}
	}
}

// R4: no list of an answer, and no text of one, lies in an argument's memory, in another answer's, nor in its fellow's.
func TestMemoryIsApart(t *testing.T) {
	lists := [][]api.Value{unlike(7), slices.Repeat(values(text("a"), num(1)), 5), slices.Repeat(unlike(40), 3)}
	for _, k := range byHand() {
		lists = append(lists, k.vs)
	}
	for _, vs := range lists {
		ws, at := words.Build(vs)
		other, again := words.Build(vs)
		looked, _ := words.Look(ws, at)
		second, _ := words.Look(ws, at)
		apart(t, spansOf(vs), spansOf(ws), spansOf(other), spansOf(looked), spansOf(second), []span{spanOf(at), spanOf(again)})
		apart(t, []span{spanOf(at)}, []span{spanOf(again)})
	}
}

// R4: what is written into one answer, its spare room too, is not seen in another, nor in its fellow.
func TestAnswersAreApart(t *testing.T) {
	for _, k := range byHand() {
		ws, at := words.Build(k.vs)
		otherWs, otherAt := words.Build(k.vs)
		looked, _ := words.Look(k.ws, k.at)
		second, _ := words.Look(k.ws, k.at)
		for i := range cap(at) {
			at[:cap(at)][i] = -5
		}
		if !slices.Equal(ws, k.ws) {
			t.Errorf("%s became %s", tell(k.ws), tell(ws))
		}
		for _, list := range [][]api.Value{ws, looked} {
			for i := range cap(list) {
				list[:cap(list)][i] = text("other")
			}
		}
		if !slices.Equal(otherWs, k.ws) || !slices.Equal(otherAt, k.at) || !slices.Equal(second, k.vs) {
			t.Errorf("became %s; %s; %s", tell(otherWs), tellPlaces(otherAt), tell(second))
		}
		builds(t, k.vs, k.ws, k.at)
		looks(t, k.ws, k.at, k.vs)
	}
}

// R5: what was asked ahead plays no part, whoever asks at the same time, of the same lists even.
func TestSameAnswersEachTime(t *testing.T) {
	var group sync.WaitGroup
	ks := byHand()
	for turn := range 8 {
		group.Go(func() {
			for i := range 20 * len(ks) {
				k := ks[(i+turn*5)%len(ks)]
				builds(t, k.vs, k.ws, k.at)
				looks(t, k.ws, k.at, k.vs)
				refuses(t, k.ws, append(slices.Clone(k.at), len(k.ws)))
				refuses(t, append(values(text("last"), text("last")), k.ws...), k.at)
			}
		})
	}
	group.Wait()
}
