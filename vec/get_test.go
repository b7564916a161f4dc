package vec_test

import (
	"slices"
	"strings"
	"testing"
	"time"

	"boathouse/api"
	"boathouse/vec"
)

// P9.2 Get: which error comes first

// ErrVecKind is told ahead of all else, of bytes that Put wrote too.
func TestGetKindsThatNoColumnHas(t *testing.T) {
	all := []string{"", "\x00", "abc", sealed(""), sealed("\x03"), "\x00\x00\x00\x00\x00\x00"}
	for _, k := range byHand() {
		all = append(all, k.body, sealed(k.body))
	}
	for _, kind := range noColumns() {
		for _, s := range all {
			getRefuses(t, kind, s, api.ErrVecKind)
		}
	}
}

// ErrVecSum is told ahead of ErrVecForm: of each bit that is turned, of each cut, and of bytes that are no column at all.
func TestGetWrongSums(t *testing.T) {
	for _, k := range byHand() {
		for _, body := range []string{k.body, "\x03" + k.body} {
			s := sealed(body)
			for at := range s {
				turned := []byte(s)
				for bit := range 8 {
					turned[at] ^= 1 << bit
					getRefuses(t, k.kind, string(turned), api.ErrVecSum)
					turned[at] ^= 1 << bit
				}
				getRefuses(t, k.kind, s[:at], api.ErrVecSum)
				if at > 0 {
					getRefuses(t, k.kind, s[at:], api.ErrVecSum)
				}
			}
			getRefuses(t, k.kind, s+"\x00", api.ErrVecSum)
			getRefuses(t, k.kind, s+s, api.ErrVecSum)
			getRefuses(t, k.kind, body, api.ErrVecSum)
		}
	}
}

func TestGetTooShortForASum(t *testing.T) {
	for _, kind := range kinds() {
		for _, s := range []string{"", "\x00", "\x00\x00", "\x00\x00\x00", "\xff\xff\xff", "\x00\x00\x00\x01", "\xff\xff\xff\xff"} {
			getRefuses(t, kind, s, api.ErrVecSum)
		}
		// Four noughts are the sum of nothing, which is no column.
		getRefuses(t, kind, "\x00\x00\x00\x00", api.ErrVecForm)
	}
}

// P9.2 Get: bytes whose sum is right, and that Put does not write

// wrong is a column's bytes that are refused, and why.
type wrong struct {
	kind int
	why  string
	body string
}

// noughts answers so many bytes that are 0.
func noughts(many int) string { return strings.Repeat("\x00", many) }

// wrongHeads are columns whose faults stand ahead of the values.
func wrongHeads() []wrong {
	return []wrong{
		{api.KindInt, "nothing", ""},
		{api.KindInt, "an encoding alone", "\x00"},
		{api.KindText, "an encoding alone", "\x01"},
		{api.KindBool, "an encoding alone", "\x02"},
		{api.KindInt, "an encoding that there is none of", "\x03\x00"},
		{api.KindInt, "an encoding that there is none of", "\x03\x00\x00"},
		{api.KindText, "an encoding that there is none of", "\x04\x01\x00\x02ab"},
		{api.KindBool, "an encoding that there is none of", "\x80\x00"},
		{api.KindInt, "an encoding that there is none of", "\xff\x00"},
		{api.KindInt, "an encoding of two bytes", "\x80\x00\x00"},
		{api.KindInt, "a count that is cut short", "\x00\x80"},
		{api.KindInt, "a count that is cut short", "\x00\xff\xff\xff\xff\xff\xff\xff\xff\xff"},
		{api.KindInt, "a count that is not in its shortest form", "\x00\x80\x00"},
		{api.KindInt, "a count that is not in its shortest form", "\x00\x83\x00\x02\x02\x01"},
		{api.KindInt, "a count that is not in its shortest form", "\x00\x81\x80\x00\x00\x02"},
		{api.KindInt, "a count that is no number", "\x00\xff\xff\xff\xff\xff\xff\xff\xff\xff\x7f"},
		{api.KindInt, "a count of 2^63 - 1", "\x00\xff\xff\xff\xff\xff\xff\xff\xff\x7f" + noughts(9)},
		{api.KindInt, "a count of 2^60", "\x00\x80\x80\x80\x80\x80\x80\x80\x80\x10" + noughts(9)},
		{api.KindInt, "one more value than MaxTable, null each", "\x00\x81\x20" + strings.Repeat("\xff", 512) + "\x01"},
		{api.KindInt, "one more value than MaxTable", "\x00\x81\x20" + noughts(513+4097)},
		{api.KindBool, "one more value than MaxTable", "\x00\x81\x20" + noughts(513+513)},
		{api.KindInt, "one more value than MaxTable, of one word", "\x02\x81\x20" + noughts(513) + "\x01\x02"},
		{api.KindInt, "a count without nulls", "\x00\x01"},
		{api.KindInt, "a byte of nulls too few", "\x00\x09\xff"},
		{api.KindInt, "a byte of nulls too many", "\x00\x08\xff\x00"},
		{api.KindInt, "a bit behind the nulls", "\x00\x01\x03"},
		{api.KindInt, "the last bit behind the nulls", "\x00\x01\x81"},
		{api.KindInt, "a bit behind the nulls of numbers", "\x00\x03\x0a\x02\x01"},
		{api.KindInt, "a bit behind the second byte of nulls", "\x00\x09\xff\x03"},
		{api.KindInt, "no values, and a byte more", "\x00\x00\x00"},
		{api.KindInt, "no values by runs", "\x01\x00\x00"},
		{api.KindInt, "no values by words", "\x02\x00\x00"},
		{api.KindInt, "no values by runs, and not how many", "\x01\x00"},
		{api.KindInt, "no values by words, and not how many", "\x02\x00"},
		{api.KindInt, "nulls alone by runs", "\x01\x01\x01\x00"},
		{api.KindText, "nulls alone by words", "\x02\x09\xff\x01\x00"},
	}
}

// wrongPlain are columns whose faults stand in values by EncPlain.
func wrongPlain() []wrong {
	x64, y65 := strings.Repeat("x", 64), strings.Repeat("y", 65)
	return []wrong{
		{api.KindInt, "a value is missing", "\x00\x01\x00"},
		{api.KindInt, "the last value is missing", "\x00\x03\x02\x02"},
		{api.KindInt, "a value too many", "\x00\x03\x02\x02\x01\x00"},
		{api.KindInt, "a value of a null", "\x00\x01\x01\x02"},
		{api.KindInt, "a number that is cut short", "\x00\x01\x00\x80"},
		{api.KindInt, "the last number is cut short", "\x00\x02\x00\x02\xff\xff"},
		{api.KindInt, "a number that is not in its shortest form", "\x00\x01\x00\x80\x00"},
		{api.KindInt, "a number that is not in its shortest form", "\x00\x02\x00\x82\x00\x04"},
		{api.KindInt, "a number above 2^64 - 1", "\x00\x01\x00\xff\xff\xff\xff\xff\xff\xff\xff\xff\x02"},
		{api.KindInt, "a number of eleven bytes", "\x00\x01\x00\x80\x80\x80\x80\x80\x80\x80\x80\x80\x80\x01"},
		{api.KindInt, "words are shorter", "\x00\x03\x00\x0a\x0a\x0a"},
		{api.KindInt, "words are shorter", "\x00\x02\x00\x80\x01\x80\x01"},
		{api.KindInt, "runs are shorter", "\x00\x12\x00\x00\x00" + strings.Repeat("\x80\x01", 9) + strings.Repeat("\x81\x01", 9)},
		{api.KindBool, "a byte is missing", "\x00\x01\x00"},
		{api.KindBool, "the last byte is missing", "\x00\x09\x00\x00\x01"},
		{api.KindBool, "a byte too many", "\x00\x01\x00\x01\x00"},
		{api.KindBool, "a byte of nulls alone", "\x00\x01\x01\x00"},
		{api.KindBool, "a bit behind", "\x00\x01\x00\x02"},
		{api.KindBool, "a bit behind", "\x00\x03\x04\x05"},
		{api.KindBool, "the last bit behind", "\x00\x07\x00\x80"},
		{api.KindBool, "truths by a byte each", "\x00\x03\x00\x01\x00\x01"},
		{api.KindBool, "words are shorter", "\x00\x11\x00\x00\x00\xff\xff\x01"},
		{api.KindBool, "runs are shorter", "\x00\x29" + noughts(6) + "\x00\x00\xf0\xff\xff\x01"},
		{api.KindText, "a length is missing", "\x00\x01\x00"},
		{api.KindText, "a text is missing", "\x00\x01\x00\x01"},
		{api.KindText, "a text is cut short", "\x00\x01\x00\x03ab"},
		{api.KindText, "a text that has a byte more", "\x00\x01\x00\x01ab"},
		{api.KindText, "a length that is cut short", "\x00\x01\x00\x80"},
		{api.KindText, "a length that is not in its shortest form", "\x00\x01\x00\x82\x00ab"},
		{api.KindText, "a length of 2^63 - 1", "\x00\x01\x00\xff\xff\xff\xff\xff\xff\xff\xff\x7fab"},
		{api.KindText, "a length of 2^63 - 2, behind another text", "\x00\x02\x00\x02ab\xfe\xff\xff\xff\xff\xff\xff\xff\x7fab"},
		{api.KindText, "a length that is no number", "\x00\x01\x00\xff\xff\xff\xff\xff\xff\xff\xff\xff\x01ab"},
		{api.KindText, "a text of more than MaxValue bytes", "\x00\x01\x00\x41" + y65},
		{api.KindText, "a text of more than MaxValue bytes, the last", "\x00\x02\x00\x40" + x64 + "\x41" + y65},
		{api.KindText, "a text that is not Valid", "\x00\x01\x00\x01\xff"},
		{api.KindText, "a text that is not Valid", "\x00\x01\x00\x03a\xc3b"},
		{api.KindText, "a text that is half of a pair", "\x00\x01\x00\x03\xed\xa0\x80"},
		{api.KindText, "a rune whose halves stand in two texts", "\x00\x02\x00\x01\xc3\x01\xa9"},
		{api.KindText, "the last text is not Valid", "\x00\x02\x00\x01a\x02b\x80"},
		{api.KindText, "words are shorter", "\x00\x02\x00\x01a\x01a"},
		{api.KindText, "words are shorter", "\x00\x04\x00\x03abc\x03xyz\x03abc\x03xyz"},
	}
}

// wrongRuns are columns whose faults stand in values by EncRuns.
func wrongRuns() []wrong {
	head := "\x01\x12\x00\x00\x00"
	return []wrong{
		{api.KindInt, "how many is missing", head},
		{api.KindInt, "how many is cut short", head + "\x82"},
		{api.KindInt, "how many is not in its shortest form", head + "\x82\x00\x09\x80\x01\x09\x81\x01"},
		{api.KindInt, "no runs", head + "\x00"},
		{api.KindInt, "a run too few", head + "\x01\x09\x80\x01"},
		{api.KindInt, "a run is missing", head + "\x02\x09\x80\x01"},
		{api.KindInt, "a run more than are told", head + "\x02\x09\x80\x01\x09\x81\x01\x09\x82\x01"},
		{api.KindInt, "fewer runs are told", head + "\x01\x09\x80\x01\x09\x81\x01"},
		{api.KindInt, "a number is missing", head + "\x02\x09\x80\x01"},
		{api.KindInt, "a value is missing", head + "\x02\x09\x80\x01\x09"},
		{api.KindInt, "a value is cut short", head + "\x02\x09\x80\x01\x09\x81"},
		{api.KindInt, "a value is not in its shortest form", head + "\x02\x09\x80\x01\x09\x82\x00"},
		{api.KindInt, "a number is not in its shortest form", head + "\x02\x89\x00\x80\x01\x09\x81\x01"},
		{api.KindInt, "a number is 0", head + "\x02\x00\x80\x01\x12\x81\x01"},
		{api.KindInt, "the last number is 0", head + "\x02\x12\x80\x01\x00\x81\x01"},
		{api.KindInt, "a number is 0 beside those that add up", head + "\x03\x09\x80\x01\x09\x81\x01\x00\x82\x01"},
		{api.KindInt, "the numbers come to too few", head + "\x02\x09\x80\x01\x08\x81\x01"},
		{api.KindInt, "the numbers come to too many", head + "\x02\x09\x80\x01\x0a\x81\x01"},
		{api.KindInt, "a number is beyond all values", head + "\x02\x09\x80\x01\xff\x7f\x81\x01"},
		{api.KindInt, "a number is 2^63 - 1", head + "\x02\x09\x80\x01\xff\xff\xff\xff\xff\xff\xff\xff\x7f\x81\x01"},
		{api.KindInt, "two numbers whose sum wraps round", head + "\x03\xff\xff\xff\xff\xff\xff\xff\xff\x7f\x80\x01\xff\xff\xff\xff\xff\xff\xff\xff\x7f\x81\x01\x14\x80\x01"},
		{api.KindInt, "two that stand together are one", head + "\x02\x09\x80\x01\x09\x80\x01"},
		{api.KindInt, "two that stand together are one, the last", head + "\x03\x06\x80\x01\x06\x81\x01\x06\x81\x01"},
		{api.KindInt, "more runs than values", "\x01\x01\x00\x02\x01\x02\x01\x04"},
		{api.KindInt, "2^63 - 1 runs", head + "\xff\xff\xff\xff\xff\xff\xff\xff\x7f\x09\x80\x01\x09\x81\x01"},
		{api.KindInt, "a run of the nulls", "\x01\x13\x10\x00\x00\x02\x0a\x80\x01\x09\x81\x01"},
		{api.KindInt, "bytes left over", head + "\x02\x09\x80\x01\x09\x81\x01\x00"},
		{api.KindInt, "values by EncPlain are shorter", "\x01\x02\x00\x02\x01\x02\x01\x04"},
		{api.KindInt, "words are shorter", "\x01\x03\x00\x01\x03\x80\x01"},
		{api.KindInt, "values by EncPlain are as short", "\x01\x12\x00\x00\x00\x09\x02\x00\x02\x02\x02\x04\x02\x06\x02\x08\x02\x0a\x02\x0c\x02\x0e\x02\x80\x01"},
		{api.KindBool, "a truth's byte is 2", "\x01\x29" + noughts(6) + "\x02\x14\x00\x15\x02"},
		{api.KindBool, "a truth's byte is 255", "\x01\x29" + noughts(6) + "\x02\x14\xff\x15\x01"},
		{api.KindBool, "a truth's byte is missing", "\x01\x29" + noughts(6) + "\x02\x14\x00\x15"},
		{api.KindBool, "two that stand together are one", "\x01\x29" + noughts(6) + "\x02\x14\x01\x15\x01"},
		{api.KindBool, "values by EncPlain are as short", "\x01\x28" + noughts(5) + "\x02\x14\x00\x14\x01"},
		{api.KindText, "a text is cut short", head + "\x02\x09\x02ab\x09\x02c"},
		{api.KindText, "a text is not Valid", head + "\x02\x09\x02ab\x09\x02c\xff"},
		{api.KindText, "a text has more than MaxValue bytes", head + "\x02\x09\x02ab\x09\x41" + strings.Repeat("x", 65)},
		{api.KindText, "a length is 2^63 - 1", head + "\x02\x09\x02ab\x09\xff\xff\xff\xff\xff\xff\xff\xff\x7fcd"},
	}
}

// wrongWords are columns whose faults stand in values by EncWords.
func wrongWords() []wrong {
	head := "\x02\x05\x00"
	return []wrong{
		{api.KindText, "how many is missing", head},
		{api.KindText, "how many is cut short", head + "\x83"},
		{api.KindText, "how many is not in its shortest form", head + "\x83\x00\x04aaaa\x04bbbb\x04cccc\x24\x02"},
		{api.KindText, "no words", head + "\x00"},
		{api.KindText, "no words, and places", head + "\x00\x24\x02"},
		{api.KindText, "a word is missing", head + "\x03\x04aaaa\x04bbbb\x24\x02"},
		{api.KindText, "a word more than are told", head + "\x02\x04aaaa\x04bbbb\x04cccc\x24\x02"},
		{api.KindText, "two words are one", head + "\x03\x04aaaa\x04bbbb\x04bbbb\x24\x02"},
		{api.KindText, "two words are one, the first and the last", head + "\x03\x04aaaa\x04bbbb\x04aaaa\x24\x02"},
		{api.KindText, "a word that no place names", head + "\x04\x04aaaa\x04bbbb\x04cccc\x04dddd\x24\x02"},
		{api.KindText, "a word in the midst that no place names", head + "\x03\x04aaaa\x04bbbb\x04cccc\x28\x02"},
		{api.KindText, "the first word that no place names", head + "\x03\x04aaaa\x04bbbb\x04cccc\x65\x02"},
		{api.KindText, "words in another row than they come first", head + "\x03\x04bbbb\x04aaaa\x04cccc\x21\x02"},
		{api.KindText, "words in another row than they come first", head + "\x03\x04aaaa\x04cccc\x04bbbb\x18\x01"},
		{api.KindText, "a place where there is no word", head + "\x03\x04aaaa\x04bbbb\x04cccc\xe4\x02"},
		{api.KindText, "the last place where there is no word", head + "\x03\x04aaaa\x04bbbb\x04cccc\x24\x03"},
		{api.KindText, "a byte of places is missing", head + "\x03\x04aaaa\x04bbbb\x04cccc\x24"},
		{api.KindText, "all places are missing", head + "\x03\x04aaaa\x04bbbb\x04cccc"},
		{api.KindText, "a byte of places too many", head + "\x03\x04aaaa\x04bbbb\x04cccc\x24\x02\x00"},
		{api.KindText, "a bit behind the places", head + "\x03\x04aaaa\x04bbbb\x04cccc\x24\x06"},
		{api.KindText, "the last bit behind the places", head + "\x03\x04aaaa\x04bbbb\x04cccc\x24\x82"},
		{api.KindText, "places of a bit too many", head + "\x03\x04aaaa\x04bbbb\x04cccc\x88\x20"},
		{api.KindText, "a word is not Valid", head + "\x03\x04aaaa\x04bb\xffb\x04cccc\x24\x02"},
		{api.KindText, "a word has more than MaxValue bytes", head + "\x03\x04aaaa\x04bbbb\x41" + strings.Repeat("c", 65) + "\x24\x02"},
		{api.KindText, "a length is not in its shortest form", head + "\x03\x04aaaa\x04bbbb\x84\x00cccc\x24\x02"},
		{api.KindText, "a length is 2^63 - 1", head + "\x03\x04aaaa\x04bbbb\xff\xff\xff\xff\xff\xff\xff\xff\x7fcccc\x24\x02"},
		{api.KindText, "2^63 - 1 words", head + "\xff\xff\xff\xff\xff\xff\xff\xff\x7f\x04aaaa\x04bbbb\x04cccc\x24\x02"},
		{api.KindText, "more words than values", "\x02\x02\x00\x03\x04aaaa\x04bbbb\x04cccc\x04"},
		{api.KindText, "values by EncPlain are shorter", "\x02\x01\x00\x01\x02ab"},
		{api.KindText, "values by EncPlain are as short", "\x02\x02\x00\x01\x00"},
		{api.KindInt, "values by EncPlain are as short", "\x02\x02\x00\x01\x0a"},
		{api.KindInt, "one word, and a byte of places", "\x02\x03\x00\x01\x80\x01\x00"},
		{api.KindInt, "one word that is cut short", "\x02\x03\x00\x01\x80"},
		{api.KindInt, "one word that is not in its shortest form", "\x02\x03\x00\x01\x8a\x00"},
		{api.KindInt, "one word that is missing", "\x02\x03\x00\x01"},
		{api.KindInt, "runs are shorter", "\x02\x18\x00\x00\x00\x02\x80\x01\x81\x01\x00\xf0\xff"},
		{api.KindInt, "runs are as short", "\x02\x10\x00\x00\x02\x80\x01\x81\x01\x00\xff"},
		{api.KindInt, "all three are as short", "\x02\x12\x00\x00\x00\x09\x00\x02\x04\x06\x08\x0a\x0c\x0e\x80\x01\x00\x11\x22\x33\x44\x55\x66\x77\x88"},
		{api.KindBool, "a truth's byte is 2", "\x02\x11\x00\x00\x00\x01\x02"},
		{api.KindBool, "a truth's byte is 129", "\x02\x11\x00\x00\x00\x01\x81"},
		{api.KindBool, "a truth's byte is missing", "\x02\x11\x00\x00\x00\x01"},
		{api.KindBool, "two words that are one", "\x02\x11\x00\x00\x00\x02\x01\x01\xff\xff\x01"},
		{api.KindBool, "values by EncPlain are as short", "\x02\x10\x00\x00\x01\x01"},
		{api.KindBool, "values by EncPlain are shorter", "\x02\x03\x00\x02\x01\x00\x02"},
	}
}

func TestWrongByHand(t *testing.T) {
	for _, w := range slices.Concat(wrongHeads(), wrongPlain(), wrongRuns(), wrongWords()) {
		if got, e := vec.Get(w.kind, sealed(w.body)); len(got) != 0 || e != api.ErrVecForm {
			t.Errorf("%s: Get(%d, %s): %s, %d", w.why, w.kind, short(w.body), tell(got), e)
		}
	}
}

// Of each column each encoding that is not taken is refused.
func TestEncodingsThatAreNotTaken(t *testing.T) {
	r := rolls(3)
	for range 1000 {
		for _, kind := range kinds() {
			vs := rolled(r, kind, 40)
			best, _ := told(vs)
			for encoding, body := range written(vs) {
				if encoding != best {
					misformed(t, kind, body)
				}
			}
		}
	}
	for _, k := range byHand() {
		for encoding, body := range written(k.vs) {
			if encoding != k.encoding {
				misformed(t, k.kind, body)
			}
		}
	}
}

// P9.2 and P9.3: what Get takes, Put writes again; all bytes of a few.

// Every text of at most two bytes, and every one of at most six out of those that tell most.
func TestShortBytes(t *testing.T) {
	taken := map[int]int{}
	for _, kind := range kinds() {
		for first := range 256 {
			judged(t, kind, string([]byte{byte(first)}))
			for second := range 256 {
				judged(t, kind, string([]byte{byte(first), byte(second)}))
			}
		}
		bodies := []string{""}
		for at := 0; at < len(bodies); at++ {
			if judged(t, kind, bodies[at]) {
				taken[kind]++
			}
			if len(bodies[at]) == 6 {
				continue
			}
			for _, next := range "\x00\x01\x02\x03\x04a" {
				bodies = append(bodies, bodies[at]+string(next))
			}
		}
	}
	// Of each kind there are some that are taken, or all of this asks for nothing.
	for _, kind := range kinds() {
		if taken[kind] < 50 {
			t.Errorf("%d of kind %d", taken[kind], kind)
		}
	}
}

// Columns by hand, each changed at each place: a bit turned, a byte left out, doubled, set, put in; cut; with bytes behind.
func TestChangedBytes(t *testing.T) {
	for _, k := range byHand() {
		if len(k.body) > 100 {
			continue
		}
		gets(t, k.kind, k.body, k.vs)
		for at := range len(k.body) {
			misformed(t, k.kind, k.body[:at])
			judged(t, k.kind, k.body[:at]+k.body[at+1:])
			judged(t, k.kind, k.body[at:])
			for bit := range 8 {
				turned := []byte(k.body)
				turned[at] ^= 1 << bit
				judged(t, k.kind, string(turned))
			}
			for _, b := range []string{"\x00", "\x01", "\x02", "\x7f", "\x80", "\x81", "\xff", k.body[at : at+1]} {
				judged(t, k.kind, k.body[:at]+b+k.body[at:])
				judged(t, k.kind, k.body[:at]+b+k.body[at+1:])
			}
			for other := range at {
				turned := []byte(k.body)
				turned[at], turned[other] = turned[other], turned[at]
				judged(t, k.kind, string(turned))
			}
		}
		for b := range 256 {
			misformed(t, k.kind, k.body+string([]byte{byte(b)}))
		}
		misformed(t, k.kind, k.body+k.body)
		misformed(t, k.kind, sealed(k.body))
		// A column of one kind, read as one of another.
		for _, kind := range kinds() {
			judged(t, kind, k.body)
		}
	}
}

func TestRolledBytes(t *testing.T) {
	r := rolls(4)
	taken := 0
	for range 15000 {
		kind := kinds()[r.IntN(3)]
		_, body := told(rolled(r, kind, 30))
		changed := []byte(body)
		for range 1 + r.IntN(2) {
			changed[r.IntN(len(changed))] = byte(r.IntN(256) >> r.IntN(8))
		}
		if judged(t, kind, string(changed)) {
			taken++
		}
	}
	if taken < 1000 {
		t.Errorf("%d", taken)
	}
}

// Sizes

// refusing answers how long it takes to refuse many bytes behind these.
func refusing(t *testing.T, head string) time.Duration {
	t.Helper()
	began := time.Now()
	for _, fill := range []string{"\x00", "\x01", "\x02", "\x7f", "\x80", "\xff"} {
		s := sealed(head + strings.Repeat(fill, 1<<20))
		for _, kind := range kinds() {
			getRefuses(t, kind, s, api.ErrVecForm)
		}
	}
	return time.Since(began)
}

// However many bytes there are: what can be asked ends in a time that their
// number explains, so not far beyond what an encoding that there is none of takes.
func TestManyBytes(t *testing.T) {
	full := "\x80\x20" + noughts(512)
	base := refusing(t, "\x03")
	for _, head := range []string{"", "\x00", "\x00\x80\x20", "\x00" + full, "\x01" + full, "\x02" + full, "\x01" + full + "\x80\x20", "\x02" + full + "\x80\x20", "\x01" + full + "\x80\x20\x01"} {
		if took := refusing(t, head); took > 30*base+time.Second {
			t.Errorf("behind %s: %v, not about %v", short(head), took, base)
		}
	}
}
