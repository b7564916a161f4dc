package colfile_test

import (
	"encoding/binary"
	"hash/crc32"
	"math"
	"math/rand/v2"
	"slices"
	"strconv"
	"strings"
	"testing"

	"boathouse/api"
	"boathouse/colfile"
	"boathouse/vec"
)

// null, num, truth, text answer values with their kind's field alone.
func null() api.Value         { return api.Value{} }
func num(x int) api.Value     { return api.Value{Kind: api.KindInt, I: x} }
func truth(b bool) api.Value  { return api.Value{Kind: api.KindBool, B: b} }
func text(s string) api.Value { return api.Value{Kind: api.KindText, S: s} }

// values is short for a list.
func values(vs ...api.Value) []api.Value { return vs }

// times answers a value so often.
func times(many int, v api.Value) []api.Value { return slices.Repeat(values(v), many) }

// truths answers a truth for each sign: 1 is true, 0 is false.
func truths(signs string) []api.Value {
	var vs []api.Value
	for _, sign := range signs {
		vs = append(vs, truth(sign == '1'))
	}
	return vs
}

// texts answers a value for each text.
func texts(all ...string) []api.Value {
	var vs []api.Value
	for _, s := range all {
		vs = append(vs, text(s))
	}
	return vs
}

// list is a column of a file with its values.
type list struct {
	id   int
	kind int
	vs   []api.Value
}

// file answers a file of columns, of as many rows as the first one has.
func file(lists ...list) api.Data {
	d := api.Data{Rows: len(lists[0].vs)}
	for _, l := range lists {
		d.Columns = append(d.Columns, api.Column{Id: l.id, Kind: l.kind})
		d.Values = append(d.Values, api.Row{V: l.vs})
	}
	return d
}

// cloned answers a file that shares no list with d.
func cloned(d api.Data) api.Data {
	d.Columns = slices.Clone(d.Columns)
	d.Values = slices.Clone(d.Values)
	for i := range d.Values {
		d.Values[i].V = slices.Clone(d.Values[i].V)
	}
	return d
}

// changed answers a file that is d but for what a function does to it.
func changed(d api.Data, change func(d *api.Data)) api.Data {
	d = cloned(d)
	change(&d)
	return d
}

// same tells whether files are one, field by field.
func same(a api.Data, b api.Data) bool {
	return a.Rows == b.Rows && slices.Equal(a.Columns, b.Columns) &&
		slices.EqualFunc(a.Values, b.Values, func(v, w api.Row) bool { return slices.Equal(v.V, w.V) })
}

// kinds are those that a column may be of.
func kinds() []int { return []int{api.KindInt, api.KindBool, api.KindText} }

// noKinds are kinds that no value has and no column; the lowest bits of some are a column's kind.
func noKinds() []int {
	all := []int{4, 5, 7, 8, 9, 255, -1, -2, -3, -4, math.MinInt, math.MinInt + 1, math.MinInt + 3, math.MaxInt, math.MaxInt - 1}
	for bit := 8; bit < 63; bit += 8 {
		for low := range api.KindText + 1 {
			all = append(all, 1<<bit+low, -1<<bit+low)
		}
	}
	return all
}

// ofKind answers values of a kind, the edges among them, unlike each other.
func ofKind(kind int) []api.Value {
	switch kind {
	case api.KindInt:
		return values(num(0), num(1), num(-1), num(63), num(-64), num(64), num(-65), num(math.MaxInt), num(math.MinInt), num(1<<32))
	case api.KindBool:
		return truths("01")
	}
	return texts("", "a", "b", "ab", "\x00", "é日", "\U0001f600", "\x7f", strings.Repeat("x", api.MaxValue-1), strings.Repeat("x", api.MaxValue), strings.Repeat("é", api.MaxValue/2))
}

// clothed answers values that are one with v, some with fields that its kind doesn't name.
func clothed(v api.Value) []api.Value {
	var all []api.Value
	for _, other := range values(null(), api.Value{I: 1}, api.Value{B: true}, api.Value{S: "x"}, api.Value{S: strings.Repeat("x", api.MaxValue+1)}, api.Value{I: math.MinInt, B: true, S: "\xff"}) {
		w := v
		if v.Kind != api.KindInt {
			w.I = other.I
		}
		if v.Kind != api.KindBool {
			w.B = other.B
		}
		if v.Kind != api.KindText {
			w.S = other.S
		}
		all = append(all, w)
	}
	return all
}

// What Put is to write, told once more without the layers below, but for a column's bytes, which are layer 9's.

// bare answers a value with what counts of it alone.
func bare(v api.Value) api.Value {
	for _, w := range values(num(v.I), truth(v.B), text(v.S)) {
		if w.Kind == v.Kind {
			return w
		}
	}
	return null()
}

// bares answers a file whose values have what counts of them alone.
func bares(d api.Data) api.Data {
	d = cloned(d)
	for _, vs := range d.Values {
		for i := range vs.V {
			vs.V[i] = bare(vs.V[i])
		}
	}
	return d
}

// number answers the bytes of a number from 0 on.
func number(x int) string {
	return string(binary.AppendUvarint(nil, uint64(x)))
}

// sealed answers a text with its sum behind it.
func sealed(s string) string {
	return string(binary.BigEndian.AppendUint32([]byte(s), crc32.ChecksumIEEE([]byte(s))))
}

// blockOf answers a column's bytes.
func blockOf(kind int, vs []api.Value) string {
	s, _ := vec.Put(kind, vs)
	return s
}

// layout is a file's bytes ahead of their sum, part by part.
type layout struct {
	mark, rows, many string
	columns          []laidColumn
	stats            []laidStat
	behind           string
}

// laidColumn is what a layout says of a column.
type laidColumn struct{ id, kind, length, block string }

// laidStat is what a layout says of a column's statistics.
type laidStat struct{ nulls, least, greatest string }

// layoutOf answers how a file is to be written.
func layoutOf(d api.Data) layout {
	l := layout{mark: "LK1", rows: number(d.Rows), many: number(len(d.Columns))}
	for i, s := range told(d) {
		c := d.Columns[i]
		block := blockOf(c.Kind, d.Values[i].V)
		l.columns = append(l.columns, laidColumn{number(c.Id), string([]byte{byte(c.Kind)}), number(len(block)), block})
		l.stats = append(l.stats, laidStat{number(s.Nulls), bound(s.Min), bound(s.Max)})
	}
	return l
}

// body answers a layout's parts, one behind the other.
func (l layout) body() string {
	s := l.mark + l.rows + l.many
	for _, c := range l.columns {
		s += c.id + c.kind + c.length + c.block
	}
	for _, b := range l.stats {
		s += b.nulls + b.least + b.greatest
	}
	return s + l.behind
}

// written answers a file's bytes ahead of their sum.
func written(d api.Data) string { return layoutOf(d).body() }

// bound answers the bytes of a least or a greatest value.
func bound(v api.Value) string {
	switch v.Kind {
	case api.KindInt:
		return "\x01" + string(binary.AppendVarint(nil, int64(v.I)))
	case api.KindBool:
		if v.B {
			return "\x02\x01"
		}
		return "\x02\x00"
	case api.KindText:
		return "\x03" + number(len(v.S)) + v.S
	}
	return "\x00"
}

// key answers a text whose bytes stand in the order of a kind's values.
func key(v api.Value) string {
	return string(binary.BigEndian.AppendUint64(nil, uint64(v.I)+1<<63)) + strconv.FormatBool(v.B) + v.S
}

// told answers a file's statistics by sorting each column.
func told(d api.Data) []api.Stat {
	var all []api.Stat
	for i, c := range bares(d).Columns {
		var rest []api.Value
		for _, v := range d.Values[i].V {
			if v = bare(v); v != null() {
				rest = append(rest, v)
			}
		}
		slices.SortFunc(rest, func(a, b api.Value) int { return strings.Compare(key(a), key(b)) })
		s := api.Stat{Col: c.Id, Nulls: len(d.Values[i].V) - len(rest)}
		if len(rest) > 0 {
			s.Min, s.Max = rest[0], rest[len(rest)-1]
		}
		all = append(all, s)
	}
	return all
}

// What the tests ask.

// tell cuts what a fault tells of a file.
func tell(d api.Data) string {
	said := strconv.Itoa(d.Rows) + " rows;"
	for _, c := range d.Columns[:min(len(d.Columns), 4)] {
		said += " column {" + strconv.Itoa(c.Id) + " " + strconv.QuoteToASCII(c.Name) + " " + strconv.Itoa(c.Kind) + "}"
	}
	for _, vs := range d.Values[:min(len(d.Values), 4)] {
		said += "; " + strconv.Itoa(len(vs.V)) + " values:"
		for _, v := range vs.V[:min(len(vs.V), 6)] {
			said += " " + tellOne(v)
		}
	}
	return said
}

// tellOne cuts what a fault tells of a value.
func tellOne(v api.Value) string {
	return "{" + strconv.Itoa(v.Kind) + " " + strconv.Itoa(v.I) + " " + strconv.FormatBool(v.B) + " " + strconv.QuoteToASCII(v.S[:min(len(v.S), 12)]) + "}"
}

// tellStats cuts what a fault tells of statistics.
func tellStats(all []api.Stat) string {
	said := strconv.Itoa(len(all)) + " columns':"
	for _, s := range all[:min(len(all), 4)] {
		said += " {" + strconv.Itoa(s.Col) + ": " + strconv.Itoa(s.Nulls) + " nulls, " + tellOne(s.Min) + " to " + tellOne(s.Max) + "}"
	}
	return said
}

// short cuts what a fault tells of bytes.
func short(s string) string {
	if len(s) > 100 {
		return strconv.Itoa(len(s)) + " bytes: " + strconv.QuoteToASCII(s[:70]) + " .. " + strconv.QuoteToASCII(s[len(s)-24:])
	}
	return strconv.QuoteToASCII(s)
}

// puts asks for a file's bytes.
func puts(t *testing.T, d api.Data, body string) {
	t.Helper()
	if got, e := colfile.Put(d); got != sealed(body) || e != api.OK {
		t.Errorf("Put(%s): %s, %d, not %s", tell(d), short(got), e, short(sealed(body)))
	}
	if !colfile.May(d) {
		t.Errorf("May(%s)", tell(d))
	}
}

// gets asks for the file that has been written, and for its statistics.
func gets(t *testing.T, body string, d api.Data) {
	t.Helper()
	if got, e := colfile.Get(sealed(body)); !same(got, d) || e != api.OK {
		t.Errorf("Get(%s): %s, %d, not %s", short(body), tell(got), e, tell(d))
	}
	asksStats(t, body, told(d))
}

// asksStats asks for the statistics of the file that has been written.
func asksStats(t *testing.T, body string, want []api.Stat) {
	t.Helper()
	if got, e := colfile.Stats(sealed(body)); !slices.Equal(got, want) || e != api.OK {
		t.Errorf("Stats(%s): %s, %d, not %s", short(body), tellStats(got), e, tellStats(want))
	}
}

// thereAndBack asks for a file's bytes, as the test's own writer tells them, for the file again and for its statistics.
func thereAndBack(t *testing.T, d api.Data) {
	t.Helper()
	body := written(d)
	puts(t, d, body)
	gets(t, body, bares(d))
}

// putRefuses asks that there may be no such file.
func putRefuses(t *testing.T, d api.Data) {
	t.Helper()
	if got, e := colfile.Put(d); got != "" || e != api.ErrFileForm {
		t.Errorf("Put(%s): %s, %d, not %d", tell(d), short(got), e, api.ErrFileForm)
	}
	if colfile.May(d) {
		t.Errorf("May(%s)", tell(d))
	}
}

// tooLong asks that there may be such a file, but that it has too many bytes.
func tooLong(t *testing.T, d api.Data) {
	t.Helper()
	if got, e := colfile.Put(d); got != "" || e != api.ErrFileForm {
		t.Errorf("Put(%s): %s, %d, not %d", tell(d), short(got), e, api.ErrFileForm)
	}
	if !colfile.May(d) {
		t.Errorf("May(%s)", tell(d))
	}
}

// getRefuses asks Get and Stats for an error, and for nothing beside it.
func getRefuses(t *testing.T, why string, s string, want api.Errno) {
	t.Helper()
	if got, e := colfile.Get(s); !same(got, api.Data{}) || e != want {
		t.Errorf("%+q: Get(%s): %s, %d, not %d", why, short(s), tell(got), e, want)
	}
	if got, e := colfile.Stats(s); len(got) != 0 || e != want {
		t.Errorf("%+q: Stats(%s): %s, %d, not %d", why, short(s), tellStats(got), e, want)
	}
}

// misformed asks that bytes whose sum is right are refused.
func misformed(t *testing.T, why string, body string) {
	t.Helper()
	getRefuses(t, why, sealed(body), api.ErrFileForm)
}

// judged asks of any bytes whose sum is right that they are refused, unless they
// are what is to be written of the file that Get answers; it tells which.
func judged(t *testing.T, body string) bool {
	t.Helper()
	got, e := colfile.Get(sealed(body))
	if e != api.OK {
		misformed(t, "judged", body)
		return false
	}
	if !same(got, bares(got)) || written(got) != body {
		t.Errorf("Get(%s): %s, written as %s", short(body), tell(got), short(written(got)))
	}
	puts(t, got, body)
	gets(t, body, got)
	return true
}

// rolls answers numbers that are the same in each run.
func rolls(seed uint64) *rand.Rand {
	return rand.New(rand.NewPCG(seed, 11))
}

// rolledValue answers a value that a column of a kind may hold.
func rolledValue(r *rand.Rand, kind int) api.Value {
	switch {
	case r.IntN(6) == 0:
		return values(null(), api.Value{Kind: 4, I: 1}, api.Value{Kind: -1, S: "\xff"}, api.Value{I: 1, B: true})[r.IntN(4)]
	case kind == api.KindInt && r.IntN(2) == 0:
		return num(int(r.Uint64()) >> r.IntN(64))
	case kind == api.KindText && r.IntN(2) == 0:
		return text(strings.Repeat("é", r.IntN(33)))
	}
	few := ofKind(kind)
	all := clothed(few[r.IntN(len(few))])
	return all[r.IntN(len(all))]
}

// rolled answers a file of at most so many rows: of any values, or of few that come again.
func rolled(r *rand.Rand, most int) api.Data {
	rows := r.IntN(most + 1)
	var lists []list
	id := 0
	for range 1 + r.IntN(api.MaxColumns) {
		id += 1 + r.IntN(200)
		kind := kinds()[r.IntN(3)]
		pool := values(rolledValue(r, kind), rolledValue(r, kind))
		few, stay := r.IntN(2) == 0, 1+r.IntN(20)
		var vs []api.Value
		for i := range rows {
			v := rolledValue(r, kind)
			if few {
				v = pool[i/stay%len(pool)]
			}
			vs = append(vs, v)
		}
		lists = append(lists, list{id, kind, vs})
	}
	return file(lists...)
}
