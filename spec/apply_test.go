package spec_test

import (
	"hash/crc32"
	"math"
	"strings"
	"testing"
	"time"

	"boathouse/api"
	"boathouse/spec"
)

// P13.1 Apply: what is ordinary, each answer written by hand

func TestApplyByHand(t *testing.T) {
	for _, c := range []struct {
		trans, param int
		v, want      api.Value
	}{
		{id, 0, num(0), num(0)}, {id, 0, num(-7), num(-7)}, {id, 0, num(math.MaxInt), num(math.MaxInt)}, {id, 0, num(least), num(least)},
		{id, 0, truth(false), truth(false)}, {id, 0, truth(true), truth(true)},
		{id, 0, text(""), text("")}, {id, 0, text("abc"), text("abc")}, {id, 0, text("\xff\x00"), text("\xff\x00")},
		// Sums that are known of these bytes.
		{bucket, 10, num(0), num(3)}, {bucket, 1024, num(0), num(873)}, {bucket, 7, num(0), num(4)},
		{bucket, 10, num(1), num(9)}, {bucket, 1024, num(1), num(1023)}, {bucket, 7, num(1), num(1)},
		{bucket, 10, num(-1), num(2)}, {bucket, 1024, num(-1), num(796)}, {bucket, 7, num(-1), num(4)},
		{bucket, 10, num(-2), num(0)}, {bucket, 1024, num(-2), num(906)}, {bucket, 7, num(-2), num(5)},
		{bucket, 10, num(256), num(4)}, {bucket, 1024, num(256), num(552)}, {bucket, 7, num(256), num(5)},
		{bucket, 10, num(0x0102030405060708), num(3)}, {bucket, 1024, num(0x0102030405060708), num(197)}, {bucket, 7, num(0x0102030405060708), num(4)},
		{bucket, 10, num(math.MaxInt), num(4)}, {bucket, 1024, num(math.MaxInt), num(710)}, {bucket, 7, num(math.MaxInt), num(2)},
		{bucket, 10, num(least), num(3)}, {bucket, 1024, num(least), num(691)}, {bucket, 7, num(least), num(6)},
		{bucket, 10, truth(false), num(7)}, {bucket, 1024, truth(false), num(909)}, {bucket, 7, truth(false), num(2)},
		{bucket, 10, truth(true), num(5)}, {bucket, 1024, truth(true), num(795)}, {bucket, 7, truth(true), num(2)},
		{bucket, 10, text(""), num(0)}, {bucket, 1024, text(""), num(0)},
		{bucket, 10, text("a"), num(7)}, {bucket, 1024, text("a"), num(579)}, {bucket, 7, text("a"), num(4)},
		{bucket, 10, text("123456789"), num(2)}, {bucket, 1024, text("123456789"), num(294)}, {bucket, 7, text("123456789"), num(5)},
		{bucket, 10, text("é日"), num(9)}, {bucket, 1024, text("é日"), num(49)}, {bucket, 7, text("\xff"), num(3)}, {bucket, 1024, text("\xff"), num(0)},
		{bucket, 1, num(77), num(0)}, {bucket, 1, text("abc"), num(0)}, {bucket, 1, truth(true), num(0)},
		{cut, 10, num(0), num(0)}, {cut, 10, num(9), num(0)}, {cut, 10, num(10), num(10)}, {cut, 10, num(11), num(10)}, {cut, 10, num(27), num(20)},
		{cut, 10, num(-1), num(-10)}, {cut, 10, num(-9), num(-10)}, {cut, 10, num(-10), num(-10)}, {cut, 10, num(-11), num(-20)}, {cut, 10, num(-27), num(-30)},
		{cut, 1, num(-27), num(-27)}, {cut, 1, num(27), num(27)}, {cut, 1, num(least), num(least)}, {cut, 1, num(math.MaxInt), num(math.MaxInt)},
		{cut, 1024, num(1023), num(0)}, {cut, 1024, num(1024), num(1024)}, {cut, 1024, num(-1), num(-1024)}, {cut, 1024, num(-1025), num(-2048)},
		{cut, 10, num(math.MaxInt), num(9223372036854775800)}, {cut, 1024, num(math.MaxInt), num(9223372036854774784)},
		// -2^63 is a multiple of 2 and none of 10: what would be below it is it.
		{cut, 2, num(least), num(least)}, {cut, 2, num(least + 1), num(least)}, {cut, 2, num(least + 2), num(least + 2)},
		{cut, 10, num(least), num(least)}, {cut, 10, num(least + 1), num(least)}, {cut, 10, num(least + 7), num(least)}, {cut, 10, num(least + 8), num(least + 8)}, {cut, 10, num(least + 17), num(least + 8)},
		{cut, 3, num(least + 1), num(least)}, {cut, 3, num(least + 2), num(least + 2)}, {cut, 3, num(least + 4), num(least + 2)},
		{cut, 1, text(""), text("")}, {cut, 1, text("a"), text("a")}, {cut, 1, text("ab"), text("a")}, {cut, 3, text("ab"), text("ab")}, {cut, 2, text("ab"), text("ab")}, {cut, 1024, text("ab"), text("ab")},
		{cut, 1, text("éa"), text("é")}, {cut, 1, text("日a"), text("日")}, {cut, 1, text("\U0001f600a"), text("\U0001f600")}, {cut, 3, text("aé日\U0001f600"), text("aé日")}, {cut, 4, text("aé日\U0001f600"), text("aé日\U0001f600")},
		{cut, 2, text("\x00\x00\x00"), text("\x00\x00")}, {cut, 1, text("e\u0301"), text("e")},
		// Bytes that are no runes, one each; a text that ends within a rune.
		{cut, 2, text("\xff\xfea"), text("\xff\xfe")}, {cut, 1, text("\x80\x80"), text("\x80")}, {cut, 1, text("\xe6\x97"), text("\xe6")}, {cut, 2, text("\xe6\x97"), text("\xe6\x97")}, {cut, 2, text("a\xf0\x9f\x98"), text("a\xf0")}, {cut, 3, text("a\xf0\x9f\x98"), text("a\xf0\x9f")},
		{cut, 1, text("\xc3a"), text("\xc3")}, {cut, 2, text("\xc3\xc3\xa9"), text("\xc3\xc3\xa9")}, {cut, 1, text("\xc0\x80"), text("\xc0")}, {cut, 1, text("\xed\xa0\x80"), text("\xed")}, {cut, 2, text("\xed\xa0\x80"), text("\xed\xa0")}, {cut, 1, text("\xf4\x90\x80\x80"), text("\xf4")}, {cut, 1, text("\xe0\x82\xa9"), text("\xe0")},
		{cut, 1, text("\ufffda"), text("\ufffd")}, {cut, 1, text("\U0010ffffa"), text("\U0010ffff")},
	} {
		for _, v := range clothed(c.v) {
			applies(t, c.trans, c.param, v, c.want, api.OK)
		}
	}
}

func TestNullOfNull(t *testing.T) {
	all := clothed(null())
	for _, kind := range noKinds() {
		all = append(all, api.Value{Kind: kind}, api.Value{Kind: kind, I: 5, B: true, S: "x"})
	}
	for _, v := range all {
		applies(t, id, 0, v, null(), api.OK)
		for _, param := range fineParams() {
			applies(t, bucket, param, v, null(), api.OK)
			applies(t, cut, param, v, null(), api.OK)
		}
	}
}

// Of a field that may not be nothing is made, of null neither.
func TestFieldsThatMayNotBe(t *testing.T) {
	params := append(append(fineParams(), noParams()...), 0)
	for _, v := range append(some(), api.Value{Kind: 9, I: 3}) {
		for _, param := range params {
			for _, trans := range noTrans() {
				applies(t, trans, param, v, null(), api.ErrSpecForm)
			}
		}
		for _, param := range fineParams() {
			applies(t, id, param, v, null(), api.ErrSpecForm)
		}
		for _, param := range noParams() {
			for _, trans := range []int{id, bucket, cut} {
				applies(t, trans, param, v, null(), api.ErrSpecForm)
			}
		}
		applies(t, bucket, 0, v, null(), api.ErrSpecForm)
		applies(t, cut, 0, v, null(), api.ErrSpecForm)
	}
	for _, b := range []bool{false, true} {
		for _, v := range clothed(truth(b)) {
			for _, param := range params {
				applies(t, cut, param, v, null(), api.ErrSpecForm)
			}
		}
	}
}

func TestEachTransOfEachValue(t *testing.T) {
	for _, v := range some() {
		for _, w := range clothed(v) {
			for _, trans := range []int{id, bucket, cut} {
				for _, param := range append(fineParams(), -1, 0, 1025) {
					want, e := applied(field(1, trans, param), v)
					applies(t, trans, param, w, want, e)
				}
			}
		}
	}
}

// P13.1: buckets

// A number goes by its eight bytes and not by its digits or its text, a truth by one byte, a text by its own: so of like bytes it is one bucket.
func TestLikeBytesLikeBuckets(t *testing.T) {
	for _, param := range fineParams() {
		for _, c := range []struct {
			v     api.Value
			bytes string
		}{
			{num(0), "\x00\x00\x00\x00\x00\x00\x00\x00"}, {num(1), "\x00\x00\x00\x00\x00\x00\x00\x01"}, {num(-1), "\xff\xff\xff\xff\xff\xff\xff\xff"},
			{num(0x0102030405060708), "\x01\x02\x03\x04\x05\x06\x07\x08"}, {num(-0x0102030405060708), "\xfe\xfd\xfc\xfb\xfa\xf9\xf8\xf8"},
			{num(math.MaxInt), "\x7f\xff\xff\xff\xff\xff\xff\xff"}, {num(least), "\x80\x00\x00\x00\x00\x00\x00\x00"}, {num(1 << 32), "\x00\x00\x00\x01\x00\x00\x00\x00"},
			{truth(false), "\x00"}, {truth(true), "\x01"},
		} {
			want := num(int(crc32.ChecksumIEEE([]byte(c.bytes))) % param)
			applies(t, bucket, param, c.v, want, api.OK)
			applies(t, bucket, param, text(c.bytes), want, api.OK)
		}
	}
}

// Each bit of a number plays its part, and each bucket is some number's.
func TestBucketsOfEachBit(t *testing.T) {
	for bit := range 64 {
		for _, x := range []int{1 << bit, -1 << bit, 1<<bit - 1, ^(1 << bit)} {
			for _, param := range []int{2, 1000, 1023, 1024} {
				want, e := applied(field(1, bucket, param), num(x))
				applies(t, bucket, param, num(x), want, e)
			}
		}
	}
	met := map[int]int{}
	for x := range 20000 {
		v, _ := spec.Apply(field(1, bucket, 1024), num(x))
		met[v.I]++
	}
	if len(met) != 1024 {
		t.Errorf("%d buckets of 1024", len(met))
	}
}

// P13.1: numbers that are cut

// On each side of each multiple near nought and near both ends.
func TestNumbersBesideMultiples(t *testing.T) {
	for param := 1; param <= 1024; param++ {
		if param > 130 && param < 900 && param%7 > 0 {
			continue
		}
		var all []int
		for _, near := range []int{0, param, -param, 5 * param, -5 * param, 1 << 32 / param * param, -1 << 40 / param * param, math.MaxInt / param * param, least / param * param} {
			for d := -2; d <= 2; d++ {
				all = append(all, near+d)
			}
		}
		// Where a sum above passes an end of the numbers it is a number at the other, as good as any.
		for d := range 3 {
			all = append(all, least+d, math.MaxInt-d, least+param-1+d, least+param-d, least+2*param-d)
		}
		for _, x := range all {
			applies(t, cut, param, num(x), num(lowered(x, param)), api.OK)
		}
	}
}

// What is made of a number is a multiple not above it and less than a step below, but at the end of the numbers.
func TestWhatMultiplesAre(t *testing.T) {
	r := rolls(2)
	for range 50000 {
		x, param := int(r.Uint64())>>r.IntN(64), 1+r.IntN(1024)
		v, e := spec.Apply(field(1, cut, param), num(x))
		if e != api.OK || v != num(v.I) || v.I > x || x-v.I >= param || v.I%param != 0 && v.I != least {
			t.Errorf("Apply of %d by %d: %s, %d", x, param, tellOne(v), e)
		}
	}
}

// P13.1: texts that are cut

// All texts of few parts: whole runes of each length, bytes that begin a rune, go on in one or are none's.
func TestAllShortTexts(t *testing.T) {
	few := []string{"a", "é", "日", "\U0001f600", "\xc3", "\xe6", "\xf0", "\x9f", "\x80", "\xa0", "\xed", "\xff"}
	texts := []string{""}
	for at := 0; at < len(texts); at++ {
		s := texts[at]
		for param := 1; param <= 6; param++ {
			want := text(shortened(s, param))
			if got, e := spec.Apply(field(1, cut, param), text(s)); got != want || e != api.OK {
				t.Errorf("Apply of %q by %d: %s, %d, not %s", s, param, tellOne(got), e, tellOne(want))
			}
		}
		if len(texts) < 40000 {
			for _, more := range few {
				texts = append(texts, s+more)
			}
		}
	}
}

// Texts of fewer runes than Param, as many, more.
func TestTextsOfEachLength(t *testing.T) {
	for _, sign := range []string{"a", "é", "日", "\U0001f600", "\xff", "\xe6", "\x97"} {
		for _, param := range fineParams() {
			for many := max(param-2, 0); many <= param+2; many++ {
				applies(t, cut, param, text(strings.Repeat(sign, many)), text(strings.Repeat(sign, min(many, param))), api.OK)
			}
			applies(t, cut, param, text(strings.Repeat(sign, 4096)), text(strings.Repeat(sign, param)), api.OK)
		}
	}
}

// A text of any size is taken, whatever a table's values may have.
func TestGreatTexts(t *testing.T) {
	began := time.Now()
	for _, sign := range []string{"a", "\xff", "日"} {
		great := text(strings.Repeat(sign, 1<<23))
		applies(t, id, 0, great, great, api.OK)
		applies(t, bucket, 1024, great, num(int(crc32.ChecksumIEEE([]byte(great.S)))%1024), api.OK)
		applies(t, cut, 1024, great, text(strings.Repeat(sign, 1024)), api.OK)
		for range 20000 {
			spec.Apply(field(1, cut, 3), great)
		}
	}
	if took := time.Since(began); took > 10*time.Second {
		t.Errorf("took %s", took)
	}
}

func TestRolledValues(t *testing.T) {
	r := rolls(3)
	for range 100000 {
		f := field(1, r.IntN(4), one(r, 1+r.IntN(1024), 1+r.IntN(4), r.IntN(2)-1, 1024, 1025))
		if f.Trans == id && r.IntN(3) > 0 {
			f.Param = 0
		}
		v := rolledValue(r, one(r, kinds()...))
		want, wantE := applied(f, v)
		if got, e := spec.Apply(f, v); got != want || e != wantE {
			t.Errorf("Apply(%s, %s): %s, %d, not %s, %d", tellField(f), tellOne(v), tellOne(got), e, tellOne(want), wantE)
		}
	}
}
