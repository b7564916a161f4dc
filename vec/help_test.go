package vec_test

import (
	"encoding/binary"
	"hash/crc32"
	"math"
	"math/rand/v2"
	"slices"
	"strconv"
	"strings"
	"testing"

	"boathouse/api"
	"boathouse/vec"
)

// null, num, truth, text answer values with their kind's field alone.
func null() api.Value         { return api.Value{} }
func num(x int) api.Value     { return api.Value{Kind: api.KindInt, I: x} }
func truth(b bool) api.Value  { return api.Value{Kind: api.KindBool, B: b} }
func text(s string) api.Value { return api.Value{Kind: api.KindText, S: s} }

// values is short for a list.
func values(vs ...api.Value) []api.Value { return vs }

// times answers a value so often.
func times(many int, v api.Value) []api.Value { return slices.Repeat(values(v), many) }

// truths answers a truth for each sign: 1 is true, 0 is false.
func truths(signs string) []api.Value {
	var vs []api.Value
	for _, sign := range signs {
		vs = append(vs, truth(sign == '1'))
	}
	return vs
}

// texts answers a value for each text.
func texts(all ...string) []api.Value {
	var vs []api.Value
	for _, s := range all {
		vs = append(vs, text(s))
	}
	return vs
}

// kinds are those that a column may be of.
func kinds() []int { return []int{api.KindInt, api.KindBool, api.KindText} }

// noColumns are kinds that a column can't be of; the lowest bits of some are a column's kind.
func noColumns() []int {
	all := []int{0, 4, 5, 7, 8, 9, 255, -1, -2, -3, -4, math.MinInt, math.MinInt + 1, math.MaxInt, math.MaxInt - 1}
	for bit := 2; bit < 63; bit++ {
		for low := range api.KindText + 1 {
			all = append(all, 1<<bit+low, -1<<bit+low)
		}
	}
	return all
}

// noKinds are kinds that no value has.
func noKinds() []int { return noColumns()[1:] }

// ofEachKind answers values of each kind, the edges among them, in the order that Less tells.
func ofEachKind() []api.Value {
	return values(
		null(),
		num(math.MinInt), num(math.MinInt+1), num(-1<<32), num(-256), num(-65), num(-64), num(-1), num(0), num(1), num(63), num(64), num(255), num(256), num(1<<32), num(math.MaxInt-1), num(math.MaxInt),
		truth(false), truth(true),
		text(""), text("\x00"), text("\x00\x00"), text("\x00a"), text("\x7f"), text("A"), text("AB"), text("B"), text("a"), text("a\x00"), text("aa"), text("aaa"), text("ab"), text("abc"), text("b"),
		text(strings.Repeat("x", api.MaxValue-1)), text(strings.Repeat("x", api.MaxValue)), text("\u0080"), text("é"), text("éa"), text("\u07ff"), text("\u0800"), text("日"), text("\ud7ff"), text("\ue000"), text("\uffff"), text("\U00010000"), text("\U0010ffff"),
	)
}

// ofKind answers those values of ofEachKind that are of a kind.
func ofKind(kind int) []api.Value {
	return slices.DeleteFunc(ofEachKind(), func(v api.Value) bool { return v.Kind != kind })
}

// clothed answers values that are one with v, some with fields that its kind doesn't name.
func clothed(v api.Value) []api.Value {
	var all []api.Value
	for _, other := range values(null(), api.Value{I: 1}, api.Value{B: true}, api.Value{S: "x"}, api.Value{S: strings.Repeat("x", api.MaxValue+1)}, api.Value{I: math.MinInt, B: true, S: "\xff"}) {
		w := v
		if v.Kind != api.KindInt {
			w.I = other.I
		}
		if v.Kind != api.KindBool {
			w.B = other.B
		}
		if v.Kind != api.KindText {
			w.S = other.S
		}
		all = append(all, w)
	}
	return all
}

// What Put is to write, told once more without the layers below.

// bare answers a value with what counts of it alone.
func bare(v api.Value) api.Value {
	for _, w := range values(num(v.I), truth(v.B), text(v.S)) {
		if w.Kind == v.Kind {
			return w
		}
	}
	return null()
}

// bares answers values with what counts of them alone.
func bares(vs []api.Value) []api.Value {
	var all []api.Value
	for _, v := range vs {
		all = append(all, bare(v))
	}
	return all
}

// length answers a count's bytes.
func length(many int) string {
	return string(binary.AppendUvarint(nil, uint64(many)))
}

// one answers a value's bytes.
func one(v api.Value) string {
	switch v.Kind {
	case api.KindInt:
		return string(binary.AppendVarint(nil, int64(v.I)))
	case api.KindBool:
		if v.B {
			return "\x01"
		}
		return "\x00"
	}
	return length(len(v.S)) + v.S
}

// bitsOf answers the bytes of numbers, so many bits each, set one by one.
func bitsOf(xs []int, width int) string {
	bytes := make([]byte, (len(xs)*width+7)/8)
	for i, x := range xs {
		for bit := range width {
			at := i*width + bit
			bytes[at/8] |= byte(x>>bit&1) << (at % 8)
		}
	}
	return string(bytes)
}

// widthOf answers how many bits the places of so many words have.
func widthOf(words int) int {
	width := 0
	for 1<<width < words {
		width++
	}
	return width
}

// plainly, byRuns, byWords answer the bytes of values that are not null by each encoding.
func plainly(vs []api.Value) string {
	if len(vs) > 0 && vs[0].Kind == api.KindBool {
		bits := make([]int, len(vs))
		for i, v := range vs {
			bits[i] = int(one(v)[0])
		}
		return bitsOf(bits, 1)
	}
	var s strings.Builder
	for _, v := range vs {
		s.WriteString(one(v))
	}
	return s.String()
}

func byRuns(vs []api.Value) string {
	var s strings.Builder
	many := 0
	for from := 0; from < len(vs); many++ {
		to := from
		for to < len(vs) && vs[to] == vs[from] {
			to++
		}
		s.WriteString(length(to-from) + one(vs[from]))
		from = to
	}
	return length(many) + s.String()
}

func byWords(vs []api.Value) string {
	places := map[api.Value]int{}
	var s strings.Builder
	at := make([]int, len(vs))
	for i, v := range vs {
		if _, met := places[v]; !met {
			places[v] = len(places)
			s.WriteString(one(v))
		}
		at[i] = places[v]
	}
	return length(len(places)) + s.String() + bitsOf(at, widthOf(len(places)))
}

// headed answers an encoding's bytes with what stands ahead of them: the encoding, how many values, which are null.
func headed(encoding int, vs []api.Value, bytes string) string {
	nulls := make([]int, len(vs))
	for i, v := range vs {
		if v == null() {
			nulls[i] = 1
		}
	}
	return string([]byte{byte(encoding)}) + length(len(vs)) + bitsOf(nulls, 1) + bytes
}

// written answers all three encodings of values that are one with vs.
func written(vs []api.Value) [3]string {
	vs = bares(vs)
	rest := slices.DeleteFunc(slices.Clone(vs), func(v api.Value) bool { return v == null() })
	return [3]string{
		headed(api.EncPlain, vs, plainly(rest)),
		headed(api.EncRuns, vs, byRuns(rest)),
		headed(api.EncWords, vs, byWords(rest)),
	}
}

// told answers the encoding that is to be taken and its bytes.
func told(vs []api.Value) (int, string) {
	all := written(vs)
	best := 0
	for encoding, s := range all {
		if len(s) < len(all[best]) {
			best = encoding
		}
	}
	return best, all[best]
}

// sealed answers a text with its sum behind it.
func sealed(s string) string {
	return string(binary.BigEndian.AppendUint32([]byte(s), crc32.ChecksumIEEE([]byte(s))))
}

// What the tests ask.

// tell cuts what a fault tells of values.
func tell(vs []api.Value) string {
	told := strconv.Itoa(len(vs)) + " values:"
	for _, v := range vs[:min(len(vs), 12)] {
		told += " {" + strconv.Itoa(v.Kind) + " " + strconv.Itoa(v.I) + " " + strconv.FormatBool(v.B) + " " + strconv.QuoteToASCII(v.S[:min(len(v.S), 12)]) + "}"
	}
	return told
}

// short cuts what a fault tells of bytes.
func short(s string) string {
	if len(s) > 60 {
		return strconv.Itoa(len(s)) + " bytes: " + strconv.QuoteToASCII(s[:40]) + " .. " + strconv.QuoteToASCII(s[len(s)-12:])
	}
	return strconv.QuoteToASCII(s)
}

// puts asks for a column's bytes and its encoding.
func puts(t *testing.T, kind int, vs []api.Value, encoding int, body string) {
	t.Helper()
	if got, e := vec.Put(kind, vs); got != sealed(body) || e != api.OK {
		t.Errorf("Put(%d, %s): %s, %d, not %s", kind, tell(vs), short(got), e, short(sealed(body)))
	}
	if got, e := vec.Encoding(kind, vs); got != encoding || e != api.OK {
		t.Errorf("Encoding(%d, %s): %d, %d, not %d", kind, tell(vs), got, e, encoding)
	}
}

// gets asks for the values of bytes.
func gets(t *testing.T, kind int, body string, vs []api.Value) {
	t.Helper()
	if got, e := vec.Get(kind, sealed(body)); !slices.Equal(got, vs) || e != api.OK {
		t.Errorf("Get(%d, %s): %s, %d, not %s", kind, short(body), tell(got), e, tell(vs))
	}
}

// thereAndBack asks for a column's bytes, as the test's own writer tells them, and for its values again.
func thereAndBack(t *testing.T, kind int, vs []api.Value) {
	t.Helper()
	encoding, body := told(vs)
	puts(t, kind, vs, encoding, body)
	gets(t, kind, body, bares(vs))
}

// putRefuses asks Put and Encoding for an error, and for nothing beside it.
func putRefuses(t *testing.T, kind int, vs []api.Value, want api.Errno) {
	t.Helper()
	if got, e := vec.Put(kind, vs); got != "" || e != want {
		t.Errorf("Put(%d, %s): %s, %d, not %d", kind, tell(vs), short(got), e, want)
	}
	if got, e := vec.Encoding(kind, vs); got != 0 || e != want {
		t.Errorf("Encoding(%d, %s): %d, %d, not %d", kind, tell(vs), got, e, want)
	}
}

// getRefuses asks Get for an error, and for nothing beside it.
func getRefuses(t *testing.T, kind int, s string, want api.Errno) {
	t.Helper()
	if got, e := vec.Get(kind, s); len(got) != 0 || e != want {
		t.Errorf("Get(%d, %s): %s, %d, not %d", kind, short(s), tell(got), e, want)
	}
}

// misformed asks that bytes whose sum is right are refused.
func misformed(t *testing.T, kind int, body string) {
	t.Helper()
	getRefuses(t, kind, sealed(body), api.ErrVecForm)
}

// judged asks of any bytes whose sum is right that they are refused, unless they
// are what is to be written of the values that Get answers.
func judged(t *testing.T, kind int, body string) bool {
	t.Helper()
	got, e := vec.Get(kind, sealed(body))
	if e != api.OK {
		misformed(t, kind, body)
		return false
	}
	for _, v := range got {
		if v != bare(v) || v != null() && v.Kind != kind {
			t.Errorf("Get(%d, %s): %s", kind, short(body), tell(got))
		}
	}
	encoding, want := told(got)
	if want != body {
		t.Errorf("Get(%d, %s): %s, written as %s", kind, short(body), tell(got), short(want))
	}
	puts(t, kind, got, encoding, body)
	return true
}

// rolls answers numbers that are the same in each run.
func rolls(seed uint64) *rand.Rand {
	return rand.New(rand.NewPCG(seed, 9))
}

// rolledValue answers a value that a column of a kind may hold.
func rolledValue(r *rand.Rand, kind int) api.Value {
	switch {
	case r.IntN(6) == 0:
		return values(null(), api.Value{Kind: 4, I: 1}, api.Value{Kind: -1, S: "\xff"}, api.Value{I: 1, B: true})[r.IntN(4)]
	case kind == api.KindInt && r.IntN(2) == 0:
		return num(int(r.Uint64()) >> r.IntN(64))
	case kind == api.KindText && r.IntN(2) == 0:
		return text(strings.Repeat("é", r.IntN(33)))
	}
	few := ofKind(kind)
	all := clothed(few[r.IntN(len(few))])
	return all[r.IntN(len(all))]
}

// rolled answers at most so many values that a column of a kind may hold: any, some of a few, or some that repeat.
func rolled(r *rand.Rand, kind int, most int) []api.Value {
	var pool, vs []api.Value
	for range 1 + r.IntN(20) {
		pool = append(pool, rolledValue(r, kind))
	}
	shape, stay := r.IntN(3), 1+r.IntN(40)
	for i := range r.IntN(most + 1) {
		switch shape {
		case 0:
			vs = append(vs, rolledValue(r, kind))
		case 1:
			vs = append(vs, pool[r.IntN(len(pool))])
		default:
			vs = append(vs, pool[i/stay%len(pool)])
		}
	}
	return vs
}
