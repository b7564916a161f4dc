package colfile_test

import (
	"math"
	"slices"
	"strings"
	"testing"

	"boathouse/api"
)

// known is a file with its bytes ahead of their sum, written by hand.
type known struct {
	d    api.Data
	body string
}

// byHand are files as Put writes them.
func byHand() []known {
	return slices.Concat(singles(), several())
}

// singles are files of one column.
func singles() []known {
	x64, y64 := strings.Repeat("x", 64), strings.Repeat("y", 64)
	return []known{
		// Numbers; the least of them may come last, nulls count for nothing.
		{file(list{5, api.KindInt, values(num(-1), null())}), "LK1\x02\x01" + "\x05\x01\x08" + sealed("\x00\x02\x02\x01") + "\x01" + "\x01\x01" + "\x01\x01"},
		{file(list{1, api.KindInt, values(num(0))}), "LK1\x01\x01" + "\x01\x01\x08" + sealed("\x00\x01\x00\x00") + "\x00" + "\x01\x00" + "\x01\x00"},
		{file(list{1, api.KindInt, values(num(1), null(), num(-1))}), "LK1\x03\x01" + "\x01\x01\x09" + sealed("\x00\x03\x02\x02\x01") + "\x01" + "\x01\x01" + "\x01\x02"},
		{file(list{1, api.KindInt, values(num(math.MaxInt), num(math.MinInt))}), "LK1\x02\x01" + "\x01\x01\x1b" + sealed("\x00\x02\x00\xfe\xff\xff\xff\xff\xff\xff\xff\xff\x01\xff\xff\xff\xff\xff\xff\xff\xff\xff\x01") + "\x00" + "\x01\xff\xff\xff\xff\xff\xff\xff\xff\xff\x01" + "\x01\xfe\xff\xff\xff\xff\xff\xff\xff\xff\x01"},
		// Truths: false is the least.
		{file(list{127, api.KindBool, values(truth(true), truth(false), null())}), "LK1\x03\x01" + "\x7f\x02\x08" + sealed("\x00\x03\x04\x01") + "\x01" + "\x02\x00" + "\x02\x01"},
		{file(list{128, api.KindBool, truths("1")}), "LK1\x01\x01" + "\x80\x01\x02\x08" + sealed("\x00\x01\x00\x01") + "\x00" + "\x02\x01" + "\x02\x01"},
		{file(list{1, api.KindBool, truths("00")}), "LK1\x02\x01" + "\x01\x02\x08" + sealed("\x00\x02\x00\x00") + "\x00" + "\x02\x00" + "\x02\x00"},
		// Texts, byte by byte.
		{file(list{1, api.KindText, values(text("b"), null(), text(""), text("a"))}), "LK1\x04\x01" + "\x01\x03\x0c" + sealed("\x00\x04\x02\x01b\x00\x01a") + "\x01" + "\x03\x00" + "\x03\x01b"},
		{file(list{1, api.KindText, texts("é日", "a")}), "LK1\x02\x01" + "\x01\x03\x0f" + sealed("\x00\x02\x00\x05\xc3\xa9\xe6\x97\xa5\x01a") + "\x00" + "\x03\x01a" + "\x03\x05\xc3\xa9\xe6\x97\xa5"},
		// A length of two bytes.
		{file(list{1, api.KindText, texts(x64, y64)}), "LK1\x02\x01" + "\x01\x03\x89\x01" + sealed("\x00\x02\x00\x40"+x64+"\x40"+y64) + "\x00" + "\x03\x40" + x64 + "\x03\x40" + y64},
		// No rows: both bounds are null.
		{file(list{1, api.KindInt, nil}), "LK1\x00\x01" + "\x01\x01\x06" + sealed("\x00\x00") + "\x00" + "\x00" + "\x00"},
		{file(list{2, api.KindBool, nil}), "LK1\x00\x01" + "\x02\x02\x06" + sealed("\x00\x00") + "\x00" + "\x00" + "\x00"},
		{file(list{3, api.KindText, nil}), "LK1\x00\x01" + "\x03\x03\x06" + sealed("\x00\x00") + "\x00" + "\x00" + "\x00"},
		// Nulls alone, of one byte and of two.
		{file(list{1, api.KindText, times(9, null())}), "LK1\x09\x01" + "\x01\x03\x08" + sealed("\x00\x09\xff\x01") + "\x09" + "\x00" + "\x00"},
		{file(list{1, api.KindBool, times(1, null())}), "LK1\x01\x01" + "\x01\x02\x07" + sealed("\x00\x01\x01") + "\x01" + "\x00" + "\x00"},
		{file(list{1, api.KindInt, times(128, null())}), "LK1\x80\x01\x01" + "\x01\x01\x17" + sealed("\x00\x80\x01"+strings.Repeat("\xff", 16)) + "\x80\x01" + "\x00" + "\x00"},
		// Values that are the shortest run by run, and word by word.
		{file(list{9, api.KindInt, slices.Concat(times(9, num(64)), times(9, num(-65)))}), "LK1\x12\x01" + "\x09\x01\x10" + sealed("\x01\x12\x00\x00\x00\x02\x09\x80\x01\x09\x81\x01") + "\x00" + "\x01\x81\x01" + "\x01\x80\x01"},
		{file(list{9, api.KindInt, times(3, num(5))}), "LK1\x03\x01" + "\x09\x01\x09" + sealed("\x02\x03\x00\x01\x0a") + "\x00" + "\x01\x0a" + "\x01\x0a"},
		// The greatest Id.
		{file(list{math.MaxInt, api.KindInt, nil}), "LK1\x00\x01" + "\xff\xff\xff\xff\xff\xff\xff\xff\x7f\x01\x06" + sealed("\x00\x00") + "\x00" + "\x00" + "\x00"},
	}
}

// several are files of several columns: all columns stand ahead of all statistics.
func several() []known {
	nothing := sealed("\x00\x00")
	var twelve []list
	body := "LK1\x00\x0c"
	for i := range 12 {
		twelve = append(twelve, list{i + 1, i%3 + 1, nil})
		body += string([]byte{byte(i + 1), byte(i%3 + 1), 6}) + nothing
	}
	return []known{
		{
			file(list{1, api.KindInt, values(num(64), num(-65))}, list{300, api.KindBool, truths("10")}, list{math.MaxInt, api.KindText, values(null(), text("ab"))}),
			"LK1\x02\x03" +
				"\x01\x01\x0b" + sealed("\x00\x02\x00\x80\x01\x81\x01") +
				"\xac\x02\x02\x08" + sealed("\x00\x02\x00\x01") +
				"\xff\xff\xff\xff\xff\xff\xff\xff\x7f\x03\x0a" + sealed("\x00\x02\x01\x02ab") +
				"\x00\x01\x81\x01\x01\x80\x01" + "\x00\x02\x00\x02\x01" + "\x01\x03\x02ab\x03\x02ab",
		},
		{
			file(list{2, api.KindText, times(2, null())}, list{3, api.KindText, texts("b", "a")}, list{4, api.KindInt, values(null(), num(3))}),
			"LK1\x02\x03" +
				"\x02\x03\x07" + sealed("\x00\x02\x03") +
				"\x03\x03\x0b" + sealed("\x00\x02\x00\x01b\x01a") +
				"\x04\x01\x08" + sealed("\x00\x02\x01\x06") +
				"\x02\x00\x00" + "\x00\x03\x01a\x03\x01b" + "\x01\x01\x06\x01\x06",
		},
		{file(twelve...), body + strings.Repeat("\x00", 36)},
	}
}

func TestByHand(t *testing.T) {
	for _, k := range byHand() {
		puts(t, k.d, k.body)
		gets(t, k.body, k.d)
		// The test's own writer tells of them what is written by hand.
		if written(k.d) != k.body {
			t.Errorf("%s: %s, not %s", tell(k.d), short(written(k.d)), short(k.body))
		}
	}
}

// What Stats answers, written by hand as well.
func TestStatsByHand(t *testing.T) {
	ks := byHand()
	for _, c := range []struct {
		body string
		want []api.Stat
	}{
		{ks[0].body, []api.Stat{{Col: 5, Nulls: 1, Min: num(-1), Max: num(-1)}}},
		{ks[2].body, []api.Stat{{Col: 1, Nulls: 1, Min: num(-1), Max: num(1)}}},
		{ks[4].body, []api.Stat{{Col: 127, Nulls: 1, Min: truth(false), Max: truth(true)}}},
		{ks[7].body, []api.Stat{{Col: 1, Nulls: 1, Min: text(""), Max: text("b")}}},
		{ks[12].body, []api.Stat{{Col: 3}}},
		{ks[15].body, []api.Stat{{Col: 1, Nulls: 128}}},
		{several()[0].body, []api.Stat{{Col: 1, Min: num(-65), Max: num(64)}, {Col: 300, Min: truth(false), Max: truth(true)}, {Col: math.MaxInt, Nulls: 1, Min: text("ab"), Max: text("ab")}}},
		{several()[1].body, []api.Stat{{Col: 2, Nulls: 2}, {Col: 3, Min: text("a"), Max: text("b")}, {Col: 4, Nulls: 1, Min: num(3), Max: num(3)}}},
	} {
		asksStats(t, c.body, c.want)
	}
}
