package json_test

import (
	"math"
	"slices"
	"strconv"
	"strings"
	"sync"
	"testing"

	"boathouse/api"
	"boathouse/json"
)

// The values of each Kind, with the fields that it uses.

func null() api.Json         { return api.Json{} }
func truth(b bool) api.Json  { return api.Json{Kind: api.JsonBool, B: b} }
func num(n int) api.Json     { return api.Json{Kind: api.JsonInt, N: n} }
func text(s string) api.Json { return api.Json{Kind: api.JsonText, S: s} }

func list(l ...api.Json) api.Json { return api.Json{Kind: api.JsonList, L: l} }

func object(keys []string, l ...api.Json) api.Json {
	return api.Json{Kind: api.JsonObject, Keys: keys, L: l}
}

func keys(k ...string) []string { return k }

// same holds two values against each other, field by field; an empty list and none are one.
func same(a, b api.Json) bool {
	return a.Kind == b.Kind && a.B == b.B && a.N == b.N && a.S == b.S &&
		slices.Equal(a.Keys, b.Keys) && slices.EqualFunc(a.L, b.L, same)
}

// used answers a value without what its Kind does not use.
func used(j api.Json) api.Json {
	u := api.Json{Kind: j.Kind}
	switch j.Kind {
	case api.JsonBool:
		u.B = j.B
	case api.JsonInt:
		u.N = j.N
	case api.JsonText:
		u.S = j.S
	case api.JsonList, api.JsonObject:
		for _, x := range j.L {
			u.L = append(u.L, used(x))
		}
	}
	if j.Kind == api.JsonObject {
		u.Keys = slices.Clone(j.Keys)
	}
	return u
}

// nested answers lists and objects in one another, so many deep, with a value in the midst.
func nested(deep int, j api.Json) api.Json {
	for i := range deep {
		if i%2 == 0 {
			j = list(j)
		} else {
			j = object(keys("k"), j)
		}
	}
	return j
}

// scribble writes over all that a value's lists hold, their spare room too.
func scribble(j api.Json) {
	l, k := j.L[:cap(j.L)], j.Keys[:cap(j.Keys)]
	for i := range l {
		scribble(l[i])
		l[i] = api.Json{Kind: 99, B: true, N: 99, S: "99", L: []api.Json{{Kind: 98}}, Keys: []string{"98"}}
	}
	for i := range k {
		k[i] = "scribbled"
	}
}

// short cuts what a fault tells.
func short(s string) string {
	if len(s) > 60 {
		return strconv.Quote(s[:30]) + " .. " + strconv.Quote(s[len(s)-20:])
	}
	return strconv.Quote(s)
}

// dice answers a roll of dice that is the same in each run.
func dice(seed uint64) func(int) int {
	state := seed*2 + 1
	return func(sides int) int {
		state = state*6364136223846793005 + 1442695040888963407
		return int((state >> 33) % uint64(sides))
	}
}

// rolledText answers runes of all lengths, escapes among them.
func rolledText(roll func(int) int) string {
	runes := []string{"", "a", "b", `"`, `\`, "/", "\x00", "\b", "\t", "\n", "\f", "\r", "\x1f", " ", "\x7f", "é", "\u2028", "日", "\ufffd", "\U0001F600", "u0041"}
	s := ""
	for range roll(4) {
		s += runes[roll(len(runes))]
	}
	return s
}

// rolled answers a value; what its Kind does not use is filled all the same.
func rolled(roll func(int) int, deep int) api.Json {
	numbers := []int{0, 1, -1, 7, 10, -10, 1000000, math.MaxInt, math.MinInt, math.MaxInt - 1, math.MinInt + 1}
	j := api.Json{Kind: roll(6), B: roll(2) > 0, N: numbers[roll(len(numbers))], S: rolledText(roll)}
	if deep == 0 {
		j.Kind = roll(4)
		return j
	}
	for i := range roll(5) {
		j.L = append(j.L, rolled(roll, deep-1))
		j.Keys = append(j.Keys, rolledText(roll)+strconv.Itoa(i))
	}
	return j
}

// P3.3

func TestPrintedIsParsedToWhatItWas(t *testing.T) {
	for seed := range uint64(3000) {
		j := rolled(dice(seed), int(seed%6))
		s, e := json.Print(j)
		if e == api.ErrJsonLong {
			continue
		}
		if e != api.OK {
			t.Fatalf("seed %d: Print: %d", seed, e)
		}
		back, e := json.Parse(s)
		if e != api.OK || !same(back, used(j)) {
			t.Fatalf("seed %d: %s: %d, %v, not %v", seed, short(s), e, back, used(j))
		}
		again, e := json.Print(back)
		if e != api.OK || again != s {
			t.Fatalf("seed %d: %s: %d, %s", seed, short(s), e, short(again))
		}
	}
}

func TestEdgesThereAndBack(t *testing.T) {
	all := ""
	for r := range 1200 {
		all += string(rune(r))
	}
	for _, j := range []api.Json{
		text(all), object(keys(all, "", "\x00"), num(1), num(2), num(3)), text(strings.Repeat("x", api.MaxText-2)),
		num(math.MinInt64), num(math.MaxInt64), num(0), list(), object(nil), nested(api.MaxDepth, num(1)), nested(api.MaxDepth-1, list()),
		object(keys(""), object(keys(""), object(keys("a", "b"), list(), object(nil)))),
	} {
		s, e := json.Print(j)
		if e != api.OK {
			t.Fatalf("Print: %d, %s", e, short(s))
		}
		if back, e := json.Parse(s); e != api.OK || !same(back, j) {
			t.Errorf("%s: %d", short(s), e)
		}
	}
}

// R4

func TestAnswersAreNewMemory(t *testing.T) {
	s := `{"a":[[1,2],[3],{"b":[4,5,6],"c":{}}],"d":["x","y","z"],"e":[[],[7]]}`
	first, e := json.Parse(s)
	other, _ := json.Parse(s)
	want, _ := json.Parse(s)
	if e != api.OK {
		t.Fatalf("Parse: %d", e)
	}
	scribble(first)
	if !same(other, want) {
		t.Errorf("another answer of Parse: %v", other)
	}
	got, is := json.Get(other, "a")
	more, _ := json.Get(other, "a")
	scribble(got)
	if !is || !same(other, want) || !same(more, want.L[0]) {
		t.Errorf("behind a Get: %v, %v", other, more)
	}
	scribble(other)
	if !same(more, want.L[0]) {
		t.Errorf("Get's answer hangs on what was handed in: %v", more)
	}
}

// Each list of an answer is written over in turn, and all the others must stand.
func TestListsOfAnAnswerShareNone(t *testing.T) {
	shared := list(num(1), num(2))
	o := object(keys("k"), list(shared, shared, object(keys("a", "b"), shared, shared), list(list(shared), shared)))
	parsed, e := json.Parse(`[[1,2],[1,2],{"a":[1,2],"b":[1,2]},[[[1,2]],[1,2]]]`)
	if e != api.OK {
		t.Fatalf("Parse: %d", e)
	}
	got, is := json.Get(o, "k")
	if !is || !same(got, parsed) || !same(got, o.L[0]) {
		t.Fatalf("Get: %v", got)
	}
	for _, j := range []api.Json{parsed, got} {
		pair := list(num(1), num(2))
		scribble(j.L[3])
		scribble(j.L[2].L[0])
		scribble(j.L[0])
		if !same(j.L[1], pair) || !same(j.L[2].L[1], pair) || !slices.Equal(j.L[2].Keys, keys("a", "b")) {
			t.Errorf("%v", j)
		}
	}
	if !same(shared, list(num(1), num(2))) {
		t.Errorf("%v", shared)
	}
}

func TestWhatIsHandedInStands(t *testing.T) {
	made := func() api.Json {
		l := []api.Json{num(1), object(keys("x", "y", "z")[:2], null(), list(num(3), num(4))), text("b"), num(9), num(10)}
		return api.Json{Kind: api.JsonObject, B: true, N: 5, S: "s", L: l[:3], Keys: keys("k", "l", "m", "spare")[:3]}
	}
	j := made()
	if s, e := json.Print(j); e != api.OK || s != `{"k":1,"l":{"x":null,"y":[3,4]},"m":"b"}` {
		t.Errorf("Print: %q, %d", s, e)
	}
	for _, key := range keys("k", "l", "m", "spare") {
		if x, is := json.Get(j, key); is {
			scribble(x)
		}
	}
	want := made()
	if !same(j, want) || !same(list(j.L[:5]...), list(want.L[:5]...)) || !slices.Equal(j.Keys[:4], want.Keys[:4]) || j.L[1].Keys[:3][2] != "z" {
		t.Errorf("%v", j)
	}
}

// R5: several at one time.
func TestSeveralAtOneTime(t *testing.T) {
	j := nested(api.MaxDepth-2, object(keys("a", "b"), list(num(1), num(2)), text("é\n")))
	want, e := json.Print(j)
	if e != api.OK {
		t.Fatalf("Print: %d", e)
	}
	o := object(keys("j"), j)
	var all sync.WaitGroup
	for range 8 {
		all.Go(func() {
			for range 50 {
				back, e := json.Parse(want)
				s, code := json.Print(j)
				x, is := json.Get(o, "j")
				_, fault := json.Parse(want + "x")
				if e != api.OK || code != api.OK || fault != api.ErrJsonForm || !is || s != want || !same(back, j) || !same(x, j) {
					t.Errorf("%d, %d, %d, %v: %q", e, code, fault, is, s)
				}
			}
		})
	}
	all.Wait()
}

// The greatest texts end in a time that their size explains, well-formed or not.
func TestGreatestTexts(t *testing.T) {
	members := "{"
	for i := 0; len(members) < api.MaxText-20; i++ {
		members += `"` + strconv.Itoa(i) + `":[],`
	}
	for _, s := range []string{
		members + `"z":0}`, members + `"0":0}`, members,
		"[" + strings.Repeat("0,", api.MaxText/2-2) + "0]", "[" + strings.Repeat("{},", 21000) + "{}]",
		`"` + strings.Repeat(`\u0000`, 10900) + `"`, `"` + strings.Repeat(`\ud83d\ude00`, 5400) + `"`, `"` + strings.Repeat("😀", 16000) + `"`,
		strings.Repeat(" ", api.MaxText-1) + "1", strings.Repeat("7", api.MaxText), strings.Repeat("[", api.MaxText), strings.Repeat(`"`, api.MaxText),
	} {
		j, e := json.Parse(s)
		if e != api.OK {
			continue
		}
		again, e := json.Print(j)
		if back, code := json.Parse(again); len(again) <= len(s) && (e != api.OK || code != api.OK || !same(back, j)) {
			t.Errorf("%s: %d, %d", short(s), e, code)
		}
	}
}
