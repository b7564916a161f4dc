package vec_test

import (
	"slices"
	"strconv"
	"strings"
	"testing"

	"boathouse/api"
	"boathouse/vec"
)

// P9.1 Put and Encoding: limits

// full answers columns of so many values, of each kind and several shapes.
func full(many int) map[int][][]api.Value {
	var numbers, names, signs []api.Value
	for i := range many {
		numbers = append(numbers, num((i-many/2)*7919))
		names = append(names, text(strings.Repeat("日", 20)+strconv.Itoa(i)))
		signs = append(signs, truth(i*i%3 == 0))
	}
	all := map[int][][]api.Value{api.KindInt: {numbers}, api.KindBool: {signs}, api.KindText: {names}}
	for kind, of := range all {
		few := of[0][:3]
		backwards := slices.Clone(of[0])
		slices.Reverse(backwards)
		all[kind] = append(of,
			backwards,
			times(many, null()),
			times(many, of[0][many-1]),
			slices.Concat(times(many/2, few[0]), times(many-many/2, of[0][many-1])),
			slices.Concat(of[0][:many-1], values(null())),
			slices.Concat(values(api.Value{Kind: 4, I: 1, S: "\xff"}), of[0][1:]),
			slices.Repeat(few, many/3+1)[:many],
		)
	}
	return all
}

func TestAsManyValuesAsATableHas(t *testing.T) {
	met := map[int]int{}
	for _, many := range []int{api.MaxTable - 1, api.MaxTable} {
		for kind, columns := range full(many) {
			for _, vs := range columns {
				thereAndBack(t, kind, vs)
				encoding, _ := told(vs)
				met[encoding]++
			}
		}
	}
	if len(met) != 3 {
		t.Errorf("%v", met)
	}
}

// So many words that a place has twelve bits, and words are yet the shortest.
func TestAsManyWordsAsPay(t *testing.T) {
	var vs []api.Value
	for i := range api.MaxTable {
		vs = append(vs, text(strings.Repeat("w", 60)+strconv.Itoa(i%2049)))
	}
	if encoding, _ := told(vs); encoding != api.EncWords {
		t.Errorf("%d", encoding)
	}
	thereAndBack(t, api.KindText, vs)
}

func TestMoreValuesThanATableHas(t *testing.T) {
	for _, many := range []int{api.MaxTable + 1, api.MaxTable + 2, 2 * api.MaxTable, api.MaxText} {
		for kind, columns := range full(many) {
			for _, vs := range columns {
				putRefuses(t, kind, vs, api.ErrVecForm)
			}
		}
	}
	for _, kind := range kinds() {
		putRefuses(t, kind, times(1<<20, null()), api.ErrVecForm)
	}
}

// A text's limit is told in bytes.
func TestLongTexts(t *testing.T) {
	for _, rune := range []string{"x", "\x00", "é", "日", "\U0001f600"} {
		for size := range api.MaxValue + 20 {
			whole := size / len(rune)
			s := strings.Repeat(rune, whole) + strings.Repeat("y", size-whole*len(rune))
			for _, vs := range [][]api.Value{texts(s), texts("", s), texts(s, "a"), times(3, text(s)), values(null(), text(s), null())} {
				if size > api.MaxValue {
					putRefuses(t, api.KindText, vs, api.ErrVecForm)
					continue
				}
				thereAndBack(t, api.KindText, vs)
			}
		}
	}
	putRefuses(t, api.KindText, texts(strings.Repeat("z", 1<<24)), api.ErrVecForm)
}

// P9.1: what is refused

// invalid answers texts that are not runes alone.
func invalid() []string {
	return []string{
		"\x80", "\xbf", "\xc0\x80", "\xc1\xbf", "\xc3", "\xc3a", "\xe0\x80\x80", "\xe6\x97", "\xed\xa0\x80", "\xed\xbf\xbf",
		"\xf0\x80\x80\x80", "\xf0\x9f\x98", "\xf4\x90\x80\x80", "\xf8\x88\x80\x80\x80", "\xfe", "\xff",
		"a\xff", "\xffa", "é\x80", "a\xc3", strings.Repeat("x", 63) + "\xc3", strings.Repeat("x", 62) + "\xff\x00",
	}
}

// placed asks that a value is refused at each of some places of columns that are fine without it.
func placed(t *testing.T, kind int, wrong api.Value) {
	t.Helper()
	few := ofKind(kind)
	columns := [][]api.Value{nil, values(null()), values(few[0]), values(few[0], null(), few[1]), times(20, few[0]), slices.Concat(times(60, few[0]), times(60, few[1]))}
	for _, vs := range columns {
		for _, at := range []int{0, len(vs) / 2, len(vs)} {
			putRefuses(t, kind, slices.Insert(slices.Clone(vs), at, wrong), api.ErrVecForm)
		}
		putRefuses(t, kind, slices.Concat(values(wrong), vs, values(wrong)), api.ErrVecForm)
	}
	putRefuses(t, kind, times(3, wrong), api.ErrVecForm)
	rest := times(api.MaxTable-1, few[0])
	putRefuses(t, kind, slices.Concat(rest, values(wrong)), api.ErrVecForm)
	putRefuses(t, kind, slices.Concat(values(wrong), rest), api.ErrVecForm)
}

func TestValuesOfAnotherKind(t *testing.T) {
	for _, kind := range kinds() {
		for _, v := range ofEachKind() {
			if v.Kind == kind || v.Kind == api.KindNull {
				continue
			}
			for _, wrong := range clothed(v) {
				putRefuses(t, kind, values(wrong), api.ErrVecForm)
				putRefuses(t, kind, values(ofKind(kind)[0], wrong), api.ErrVecForm)
				putRefuses(t, kind, values(wrong, null()), api.ErrVecForm)
			}
			placed(t, kind, v)
		}
	}
}

func TestTextsThatAreNotRunes(t *testing.T) {
	for _, s := range invalid() {
		placed(t, api.KindText, text(s))
		placed(t, api.KindText, api.Value{Kind: api.KindText, I: 1, B: true, S: s})
	}
}

func TestTextsThatAreTooLong(t *testing.T) {
	for _, s := range []string{strings.Repeat("x", 65), strings.Repeat("é", 33), strings.Repeat("日", 22), strings.Repeat("x", api.MaxText), "\xff" + strings.Repeat("x", 64)} {
		placed(t, api.KindText, text(s))
	}
}

// ErrVecKind is told ahead of ErrVecForm, whatever the values are.
func TestKindsThatNoColumnHas(t *testing.T) {
	for _, kind := range noColumns() {
		for _, vs := range [][]api.Value{
			nil, values(), values(null()), values(num(1)), truths("01"), texts("a", ""), values(num(1), text("a"), truth(true), null()),
			values(api.Value{Kind: kind, I: 1, B: true, S: "a"}), texts("\xff"), texts(strings.Repeat("x", 65)), times(api.MaxTable+1, null()),
		} {
			putRefuses(t, kind, vs, api.ErrVecKind)
		}
	}
}

// P9.1 and chapter 7: what counts of a value

// Fields that the kind doesn't name play no part, not even a text that no value may have, nor do they part runs and words.
func TestFieldsThatTheKindDoesNotName(t *testing.T) {
	for _, kind := range kinds() {
		few := ofKind(kind)
		for i, v := range few {
			other := few[(i+1)%len(few)]
			for _, vs := range [][]api.Value{
				clothed(v), slices.Repeat(clothed(v), 20), slices.Concat(clothed(v), clothed(null()), clothed(other)),
				slices.Concat(slices.Repeat(clothed(v), 9), slices.Repeat(clothed(other), 9)), slices.Repeat(append(clothed(other), clothed(v)...), 4),
			} {
				thereAndBack(t, kind, vs)
				// The test's own walk goes over bare values, so it is held against itself here.
				encoding, body := told(bares(vs))
				puts(t, kind, vs, encoding, body)
			}
		}
	}
}

// A kind that there is none of is null, whatever its fields hold.
func TestKindsThatThereAreNoneOf(t *testing.T) {
	for _, kind := range kinds() {
		few := ofKind(kind)
		for i, odd := range noKinds() {
			v := api.Value{Kind: odd, I: i, B: i%2 == 0, S: []string{"", "a", "\xff", strings.Repeat("x", 65)}[i%4]}
			puts(t, kind, values(v), api.EncPlain, "\x00\x01\x01")
			puts(t, kind, values(v, null(), v), api.EncPlain, "\x00\x03\x07")
			thereAndBack(t, kind, values(v, few[0], v, few[len(few)-1]))
			thereAndBack(t, kind, append(times(40, few[0]), v))
		}
	}
}

// The encoding stands first among a column's bytes, whichever column it is.
func TestEncodingIsWhatPutTakes(t *testing.T) {
	r := rolls(2)
	for range 1000 {
		for _, kind := range kinds() {
			vs := rolled(r, kind, 80)
			s, e := vec.Put(kind, vs)
			encoding, f := vec.Encoding(kind, vs)
			if e != api.OK || f != api.OK || int(s[0]) != encoding {
				t.Errorf("%d, %s: %s, %d, %d", kind, tell(vs), short(s), e, encoding)
			}
		}
	}
}

// A column for which one encoding is still taken, and one a value longer for which it is another.
func TestWhereTheShortestChanges(t *testing.T) {
	for _, c := range []struct {
		kind        int
		ahead, then []api.Value
		was, is     int
	}{
		{api.KindInt, times(2, num(1)), times(3, num(1)), api.EncPlain, api.EncWords},
		{api.KindInt, values(num(64)), times(2, num(64)), api.EncPlain, api.EncWords},
		{api.KindBool, times(16, truth(true)), times(17, truth(true)), api.EncPlain, api.EncWords},
		{api.KindBool, truths(strings.Repeat("1", 20) + strings.Repeat("0", 20)), truths(strings.Repeat("1", 20) + strings.Repeat("0", 21)), api.EncPlain, api.EncRuns},
		{api.KindText, texts("", ""), texts("", "", ""), api.EncPlain, api.EncWords},
		{api.KindText, texts("a"), texts("a", "a"), api.EncPlain, api.EncWords},
		{api.KindInt, slices.Concat(times(4, num(100)), times(4, num(200))), slices.Concat(times(4, num(100)), times(5, num(200))), api.EncWords, api.EncRuns},
	} {
		puts(t, c.kind, c.ahead, c.was, written(c.ahead)[c.was])
		puts(t, c.kind, c.then, c.is, written(c.then)[c.is])
		thereAndBack(t, c.kind, c.ahead)
		thereAndBack(t, c.kind, c.then)
	}
}
