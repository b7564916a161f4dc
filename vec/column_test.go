package vec_test

import (
	"math"
	"slices"
	"strconv"
	"strings"
	"testing"

	"boathouse/api"
)

// known is a column with its encoding and its bytes ahead of their sum, written by hand.
type known struct {
	kind     int
	vs       []api.Value
	encoding int
	body     string
}

// byHand are columns as Put writes them.
func byHand() []known {
	return slices.Concat(plainByHand(), runsByHand(), wordsByHand(), alikeByHand())
}

// plainByHand are columns that are the shortest value by value.
func plainByHand() []known {
	return []known{
		// No values; nulls alone, up to a byte of them and beyond.
		{api.KindInt, nil, api.EncPlain, "\x00\x00"},
		{api.KindBool, nil, api.EncPlain, "\x00\x00"},
		{api.KindText, nil, api.EncPlain, "\x00\x00"},
		{api.KindInt, values(null()), api.EncPlain, "\x00\x01\x01"},
		{api.KindBool, times(2, null()), api.EncPlain, "\x00\x02\x03"},
		{api.KindText, times(8, null()), api.EncPlain, "\x00\x08\xff"},
		{api.KindText, times(9, null()), api.EncPlain, "\x00\x09\xff\x01"},
		// Numbers, nulls among them.
		{api.KindInt, values(num(0)), api.EncPlain, "\x00\x01\x00\x00"},
		{api.KindInt, values(num(1)), api.EncPlain, "\x00\x01\x00\x02"},
		{api.KindInt, values(num(-1)), api.EncPlain, "\x00\x01\x00\x01"},
		{api.KindInt, values(num(63), num(-64)), api.EncPlain, "\x00\x02\x00\x7e\x7f"},
		{api.KindInt, values(num(64), num(-65)), api.EncPlain, "\x00\x02\x00\x80\x01\x81\x01"},
		{api.KindInt, values(num(math.MaxInt)), api.EncPlain, "\x00\x01\x00\xfe\xff\xff\xff\xff\xff\xff\xff\xff\x01"},
		{api.KindInt, values(num(math.MinInt)), api.EncPlain, "\x00\x01\x00\xff\xff\xff\xff\xff\xff\xff\xff\xff\x01"},
		{api.KindInt, values(num(1), null(), num(-1)), api.EncPlain, "\x00\x03\x02\x02\x01"},
		{api.KindInt, values(null(), num(1), num(2), num(3), num(4), num(5), num(6), num(7), null()), api.EncPlain, "\x00\x09\x01\x01\x02\x04\x06\x08\x0a\x0c\x0e"},
		// Truths: the lowest bit is the first.
		{api.KindBool, truths("1"), api.EncPlain, "\x00\x01\x00\x01"},
		{api.KindBool, truths("0"), api.EncPlain, "\x00\x01\x00\x00"},
		{api.KindBool, values(truth(true), truth(false), null()), api.EncPlain, "\x00\x03\x04\x01"},
		{api.KindBool, values(null(), truth(false), null(), truth(true)), api.EncPlain, "\x00\x04\x05\x02"},
		{api.KindBool, truths("10110001"), api.EncPlain, "\x00\x08\x00\x8d"},
		{api.KindBool, truths("000000001"), api.EncPlain, "\x00\x09\x00\x00\x00\x01"},
		// Texts: their lengths are bytes, not runes.
		{api.KindText, texts(""), api.EncPlain, "\x00\x01\x00\x00"},
		{api.KindText, texts("ab"), api.EncPlain, "\x00\x01\x00\x02ab"},
		{api.KindText, texts("\x00"), api.EncPlain, "\x00\x01\x00\x01\x00"},
		{api.KindText, texts("é日", "\U0001f600"), api.EncPlain, "\x00\x02\x00\x05\xc3\xa9\xe6\x97\xa5\x04\xf0\x9f\x98\x80"},
		{api.KindText, values(text("b"), null(), text(""), text("a")), api.EncPlain, "\x00\x04\x02\x01b\x00\x01a"},
		{api.KindText, texts(strings.Repeat("x", 64)), api.EncPlain, "\x00\x01\x00\x40" + strings.Repeat("x", 64)},
	}
}

// runsByHand are columns that are the shortest run by run.
func runsByHand() []known {
	return []known{
		{api.KindInt, slices.Concat(times(9, num(64)), times(9, num(-65))), api.EncRuns, "\x01\x12\x00\x00\x00\x02\x09\x80\x01\x09\x81\x01"},
		// Nulls cut no run.
		{api.KindInt, slices.Concat(times(4, num(64)), values(null()), times(5, num(64)), times(9, num(-65))), api.EncRuns, "\x01\x13\x10\x00\x00\x02\x09\x80\x01\x09\x81\x01"},
		// A value that comes again is a run again.
		{api.KindInt, slices.Concat(times(20, num(1)), times(20, num(-2)), times(20, num(1))), api.EncRuns, "\x01\x3c\x00\x00\x00\x00\x00\x00\x00\x00\x03\x14\x02\x14\x03\x14\x02"},
		// A number of two bytes.
		{api.KindInt, slices.Concat(times(128, num(0)), values(num(7))), api.EncRuns, "\x01\x81\x01" + strings.Repeat("\x00", 17) + "\x02\x80\x01\x00\x01\x0e"},
		{api.KindBool, truths(strings.Repeat("0", 20) + strings.Repeat("1", 21)), api.EncRuns, "\x01\x29\x00\x00\x00\x00\x00\x00\x02\x14\x00\x15\x01"},
		{api.KindBool, truths(strings.Repeat("1", 40) + "0"), api.EncRuns, "\x01\x29\x00\x00\x00\x00\x00\x00\x02\x28\x01\x01\x00"},
		{api.KindText, slices.Concat(times(9, text("ab")), times(9, text("cd"))), api.EncRuns, "\x01\x12\x00\x00\x00\x02\x09\x02ab\x09\x02cd"},
		{api.KindText, slices.Concat(times(9, text("")), times(9, text("é"))), api.EncRuns, "\x01\x12\x00\x00\x00\x02\x09\x00\x09\x02\xc3\xa9"},
	}
}

// wordsByHand are columns that are the shortest word by word.
func wordsByHand() []known {
	return []known{
		// One word: places have no bits.
		{api.KindInt, times(3, num(64)), api.EncWords, "\x02\x03\x00\x01\x80\x01"},
		{api.KindInt, times(3, num(5)), api.EncWords, "\x02\x03\x00\x01\x0a"},
		{api.KindInt, values(num(5), null(), num(5), num(5)), api.EncWords, "\x02\x04\x02\x01\x0a"},
		{api.KindBool, truths(strings.Repeat("1", 17)), api.EncWords, "\x02\x11\x00\x00\x00\x01\x01"},
		{api.KindBool, truths(strings.Repeat("0", 17)), api.EncWords, "\x02\x11\x00\x00\x00\x01\x00"},
		{api.KindText, times(3, text("")), api.EncWords, "\x02\x03\x00\x01\x00"},
		{api.KindText, times(2, text("abc")), api.EncWords, "\x02\x02\x00\x01\x03abc"},
		// Two words: one bit a place, in the row in which they come first.
		{api.KindInt, values(num(100), num(-100), num(-100), num(100)), api.EncWords, "\x02\x04\x00\x02\xc8\x01\xc7\x01\x06"},
		{api.KindText, texts("abc", "xyz", "abc", "xyz"), api.EncWords, "\x02\x04\x00\x02\x03abc\x03xyz\x0a"},
		{api.KindText, texts("xyz", "abc", "xyz", "abc"), api.EncWords, "\x02\x04\x00\x02\x03xyz\x03abc\x0a"},
		// Three words, two bits; five words, three bits.
		{api.KindText, texts("aaaa", "bbbb", "cccc", "aaaa", "cccc"), api.EncWords, "\x02\x05\x00\x03\x04aaaa\x04bbbb\x04cccc\x24\x02"},
		{api.KindInt, values(num(100), num(101), num(102), num(103), num(104), num(100), num(104), num(103)), api.EncWords, "\x02\x08\x00\x05\xc8\x01\xca\x01\xcc\x01\xce\x01\xd0\x01\x88\x46\x70"},
	}
}

// alikeByHand are columns of which several encodings are equally long.
func alikeByHand() []known {
	twice := slices.Concat(times(2, num(0)), times(2, num(1)), times(2, num(2)), times(2, num(3)), times(2, num(4)), times(2, num(5)), times(2, num(6)), times(2, num(7)), times(2, num(64)))
	var far, long []api.Value
	for x := range 9 {
		far = append(far, num(100+x), num(100+x))
	}
	for x := range 17 {
		long = append(long, num(x), num(x))
	}
	long[0], long[1] = num(100), num(100)
	return []known{
		// Value by value and word by word.
		{api.KindInt, values(num(5), num(5)), api.EncPlain, "\x00\x02\x00\x0a\x0a"},
		{api.KindText, texts("", ""), api.EncPlain, "\x00\x02\x00\x00\x00"},
		{api.KindBool, truths(strings.Repeat("1", 16)), api.EncPlain, "\x00\x10\x00\x00\xff\xff"},
		{api.KindInt, values(num(5), num(1), num(1), num(5)), api.EncPlain, "\x00\x04\x00\x0a\x02\x02\x0a"},
		// Value by value and run by run.
		{api.KindBool, truths(strings.Repeat("0", 20) + strings.Repeat("1", 20)), api.EncPlain, "\x00\x28" + strings.Repeat("\x00", 5) + "\x00\x00\xf0\xff\xff"},
		{api.KindInt, long, api.EncPlain, "\x00\x22" + strings.Repeat("\x00", 5) + "\xc8\x01\xc8\x01" + twiceEach(1, 17)},
		// Run by run and word by word.
		{api.KindInt, far, api.EncRuns, "\x01\x12\x00\x00\x00\x09\x02\xc8\x01\x02\xca\x01\x02\xcc\x01\x02\xce\x01\x02\xd0\x01\x02\xd2\x01\x02\xd4\x01\x02\xd6\x01\x02\xd8\x01"},
		// All three.
		{api.KindInt, twice, api.EncPlain, "\x00\x12\x00\x00\x00\x00\x00\x02\x02\x04\x04\x06\x06\x08\x08\x0a\x0a\x0c\x0c\x0e\x0e\x80\x01\x80\x01"},
	}
}

// twiceEach answers the bytes of small numbers from 0 on, each twice.
func twiceEach(from int, to int) string {
	var s []byte
	for x := from; x < to; x++ {
		s = append(s, byte(2*x), byte(2*x))
	}
	return string(s)
}

func TestByHand(t *testing.T) {
	for _, k := range byHand() {
		puts(t, k.kind, k.vs, k.encoding, k.body)
		gets(t, k.kind, k.body, k.vs)
		// The test's own writer tells of them what is written by hand.
		if encoding, body := told(k.vs); encoding != k.encoding || body != k.body {
			t.Errorf("%s: %d, %s", tell(k.vs), encoding, short(body))
		}
	}
}

// Each kind has columns by hand of each encoding.
func TestByHandHoldsAll(t *testing.T) {
	met := map[[2]int]bool{}
	for _, k := range byHand() {
		met[[2]int{k.kind, k.encoding}] = true
	}
	if len(met) != 9 {
		t.Errorf("%v", met)
	}
}

// Of columns that are written by hand as equally long, which encodings are.
func TestAlikeAreAlike(t *testing.T) {
	alike := map[[3]bool]int{}
	for _, k := range alikeByHand() {
		all := written(k.vs)
		least := min(len(all[0]), len(all[1]), len(all[2]))
		alike[[3]bool{len(all[0]) == least, len(all[1]) == least, len(all[2]) == least}]++
	}
	for _, which := range [][3]bool{{true, true, false}, {true, false, true}, {false, true, true}, {true, true, true}} {
		if alike[which] == 0 {
			t.Errorf("%v: none of %v", which, alike)
		}
	}
}

// Every list of at most so many values out of a few.
func TestShortLists(t *testing.T) {
	for _, c := range []struct {
		kind int
		most int
		few  []api.Value
	}{
		{api.KindInt, 5, values(null(), num(0), num(-1), num(64), num(math.MinInt), api.Value{Kind: 1, I: 0, S: "\xff"}, api.Value{Kind: 7, I: 3})},
		{api.KindBool, 6, values(null(), truth(false), truth(true), api.Value{Kind: 2, B: true, I: 1}, api.Value{Kind: -1, B: true})},
		{api.KindText, 5, values(null(), text(""), text("a"), text("é"), text("abc"), api.Value{Kind: 3, S: "a", B: true}, api.Value{Kind: 4, S: "a"})},
	} {
		lists := [][]api.Value{nil}
		for at := 0; at < len(lists); at++ {
			vs := lists[at]
			thereAndBack(t, c.kind, vs)
			if len(vs) == c.most {
				continue
			}
			for _, v := range c.few {
				lists = append(lists, append(slices.Clone(vs), v))
			}
		}
	}
}

func TestRolledLists(t *testing.T) {
	r := rolls(1)
	met := map[[2]int]int{}
	for range 1500 {
		for _, kind := range kinds() {
			vs := rolled(r, kind, 150)
			thereAndBack(t, kind, vs)
			encoding, _ := told(vs)
			met[[2]int{kind, encoding}]++
		}
	}
	if len(met) != 9 {
		t.Errorf("%v", met)
	}
}

// Each value, alone, among nulls, and so often that it becomes a word.
func TestEachValue(t *testing.T) {
	for _, kind := range kinds() {
		for _, v := range ofKind(kind) {
			thereAndBack(t, kind, values(v))
			thereAndBack(t, kind, values(null(), v, null()))
			thereAndBack(t, kind, times(30, v))
			for _, w := range ofKind(kind) {
				thereAndBack(t, kind, values(v, w))
				thereAndBack(t, kind, slices.Concat(times(50, v), times(50, w)))
				thereAndBack(t, kind, slices.Repeat(values(v, w, w, null()), 15))
			}
		}
	}
}

// Each number of values about the edges of bytes and of counts, of several shapes.
func TestEachNumberOfValues(t *testing.T) {
	for many := range 150 {
		thereAndBack(t, api.KindInt, times(many, null()))
		for _, kind := range kinds() {
			few := ofKind(kind)
			last := few[len(few)-1]
			thereAndBack(t, kind, times(many, last))
			thereAndBack(t, kind, slices.Concat(times(many, few[0]), values(last)))
			thereAndBack(t, kind, slices.Concat(times(many, few[0]), times(many, last)))
			thereAndBack(t, kind, slices.Repeat(values(null(), last), many))
			thereAndBack(t, kind, slices.Concat(times(many, null()), values(last, few[0])))
			thereAndBack(t, kind, slices.Repeat(values(few[0], last), many))
		}
	}
}

// Each number of words about the edges of a place's bits, each so often that words are the shortest.
func TestEachNumberOfWords(t *testing.T) {
	for many := 1; many <= 300; many++ {
		if many > 70 && many&(many-1) > 2 && many != 127 && many != 255 {
			continue
		}
		var numbers, names []api.Value
		for i := range many {
			numbers = append(numbers, num(math.MaxInt-i))
			names = append(names, text(strings.Repeat("n", 9)+strconv.Itoa(i)))
		}
		for kind, ws := range map[int][]api.Value{api.KindInt: numbers, api.KindText: names} {
			vs := slices.Repeat(ws, 3)
			thereAndBack(t, kind, vs)
			if encoding, _ := told(vs); encoding != api.EncWords {
				t.Errorf("%d words: %d", many, encoding)
			}
			slices.Reverse(vs)
			thereAndBack(t, kind, append(vs, null(), ws[0]))
		}
	}
}
