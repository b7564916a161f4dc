package spec_test

import (
	"encoding/binary"
	"hash/crc32"
	"math"
	"math/big"
	"math/rand/v2"
	"slices"
	"strconv"
	"strings"
	"testing"

	"boathouse/api"
	"boathouse/schema"
	"boathouse/spec"
)

// The greatest Id of a spec and the least number, as the document writes them.
const (
	top   = 1<<31 - 1
	least = -1 << 63
)

// The transforms.
const (
	id     = api.TransIdentity
	bucket = api.TransBucket
	cut    = api.TransTruncate
)

// null, num, truth, text answer values with their kind's field alone.
func null() api.Value         { return api.Value{} }
func num(x int) api.Value     { return api.Value{Kind: api.KindInt, I: x} }
func truth(b bool) api.Value  { return api.Value{Kind: api.KindBool, B: b} }
func text(s string) api.Value { return api.Value{Kind: api.KindText, S: s} }

// values, row, field, of are short for what they answer.
func values(vs ...api.Value) []api.Value { return vs }
func row(vs ...api.Value) api.Row        { return api.Row{V: vs} }
func of(fields ...api.Field) api.Spec    { return api.Spec{Id: 3, Fields: fields} }
func field(source int, trans int, param int) api.Field {
	return api.Field{Source: source, Trans: trans, Param: param}
}

// nulls answers a row of so many nulls.
func nulls(many int) api.Row { return api.Row{V: make([]api.Value, many)} }

// wide answers a schema whose Ids are no places and don't rise: two numbers, two texts, a truth.
func wide() api.Schema {
	return api.Schema{Id: 2, Next: 30, Columns: []api.Column{
		{Id: 7, Name: "a", Kind: api.KindInt}, {Id: 2, Name: "b", Kind: api.KindText}, {Id: 4, Name: "c", Kind: api.KindBool},
		{Id: 29, Name: "d", Kind: api.KindInt}, {Id: 3, Name: "e", Kind: api.KindText},
	}}
}

// ofKinds answers a schema of columns of these kinds, with the Ids 1 and on.
func ofKinds(kinds ...int) api.Schema {
	s := api.Schema{Next: len(kinds) + 1}
	for i, kind := range kinds {
		s.Columns = append(s.Columns, api.Column{Id: i + 1, Name: "c" + strconv.Itoa(i), Kind: kind})
	}
	return s
}

// changed answers a spec that is p but for what a function does to it.
func changed(p api.Spec, change func(p *api.Spec)) api.Spec {
	p.Fields = slices.Clone(p.Fields)
	change(&p)
	return p
}

// kinds are those that a column may be of.
func kinds() []int { return []int{api.KindInt, api.KindBool, api.KindText} }

// noNumbers are numbers that are none of 0 to 3; the lowest bits of some are.
func noNumbers() []int {
	all := []int{4, 5, 7, 8, 255, -1, -2, -3, -4, math.MinInt, math.MinInt + 1, math.MinInt + 2, math.MinInt + 3, math.MaxInt, math.MaxInt - 1}
	for bit := 8; bit < 63; bit += 8 {
		for low := range 4 {
			all = append(all, 1<<bit+low, -1<<bit+low)
		}
	}
	return all
}

// noKinds are kinds that there are none of, noTrans transforms.
func noKinds() []int { return noNumbers() }
func noTrans() []int { return append(noNumbers(), 3) }

// fineParams are Params of bucket and truncate, noParams are none of them, but for 0 that identity has.
func fineParams() []int { return []int{1, 2, 3, 7, 10, 64, 255, 256, 257, 1000, 1022, 1023, 1024} }
func noParams() []int {
	return []int{-1, -2, -1024, -1025, 1025, 1026, 2048, 65536, top, 1 << 32, 1<<32 + 1, 1<<32 + 1024, -1<<32 + 1, math.MaxInt, math.MinInt, math.MinInt + 1}
}

// fine answers whether a Trans goes with a Param, for the tests that ask each with each.
func fine(trans int, param int) bool {
	switch trans {
	case 0:
		return param == 0
	case 1, 2:
		return 0 < param && param < 1025
	}
	return false
}

// clothed answers values with the same kind's field as v, and with others in those that the kind doesn't name.
func clothed(v api.Value) []api.Value {
	var all []api.Value
	for _, other := range values(api.Value{}, api.Value{I: 1}, api.Value{B: true}, api.Value{S: "x"}, api.Value{I: math.MaxInt, B: true, S: "\xff"}) {
		w := v
		if v.Kind != api.KindInt {
			w.I = other.I
		}
		if v.Kind != api.KindBool {
			w.B = other.B
		}
		if v.Kind != api.KindText {
			w.S = other.S
		}
		all = append(all, w)
	}
	return all
}

// some are values of each kind, ordinary and at the edges.
func some() []api.Value {
	all := values(null(), truth(false), truth(true))
	for _, x := range []int{least, least + 1, least + 5, -1 << 32, -1025, -1024, -1023, -256, -11, -10, -9, -2, -1, 0, 1, 2, 9, 10, 11, 255, 256, 1023, 1024, 1025, 1 << 32, math.MaxInt - 1, math.MaxInt, 0x0102030405060708} {
		all = append(all, num(x))
	}
	for _, s := range []string{"", "a", "ab", "abc", "\x00", "\x01", "\x00\x00\x00\x00\x00\x00\x00\x00", "é", "日本", "\U0001f600a", "aé日\U0001f600", "\xff", "\xff\xfe", "\xc3", "a\xc3", "\xe6\x97", "日\xf0\x9f\x98", "\xed\xa0\x80", "\xc0\x80", "\xf4\x90\x80\x80", "true", "1", strings.Repeat("x", 64), strings.Repeat("é", 1024), strings.Repeat("日", 1025)} {
		all = append(all, text(s))
	}
	return all
}

// What the calls are to answer, told once more without the layers below.

// bare answers a value with its kind's field alone.
func bare(v api.Value) api.Value {
	return []api.Value{{}, num(v.I), truth(v.B), text(v.S)}[max(0, slices.Index([]int{0, 1, 2, 3}, v.Kind))]
}

// mayBe tells whether a spec may be, where the schema may.
func mayBe(p api.Spec, s api.Schema) bool {
	kindOf := map[int]int{}
	for _, c := range s.Columns {
		kindOf[c.Id] = c.Kind
	}
	pairs := map[[2]int]int{}
	for _, f := range p.Fields {
		kind := kindOf[f.Source]
		if kind == 0 || !fine(f.Trans, f.Param) || f.Trans == 2 && kind == 2 {
			return false
		}
		pairs[[2]int{f.Source, f.Trans}]++
	}
	return schema.May(s) && p.Id >= 0 && p.Id < 1<<31 && len(p.Fields) < 5 && len(pairs) == len(p.Fields)
}

// bytes answers those of a value that are summed.
func bytes(v api.Value) []byte {
	switch v.Kind {
	case 1:
		return binary.BigEndian.AppendUint64(nil, uint64(v.I))
	case 2:
		return []byte{map[bool]byte{false: 0, true: 1}[v.B]}
	}
	return []byte(v.S)
}

// lowered answers a number less its rest, by numbers of any size.
func lowered(x int, step int) int {
	n := big.NewInt(int64(x))
	n.Sub(n, new(big.Int).Mod(n, big.NewInt(int64(step))))
	if !n.IsInt64() {
		return least
	}
	return int(n.Int64())
}

// shortened answers a text's first runes, as the language goes over them.
func shortened(s string, many int) string {
	for at := range s {
		if many == 0 {
			return s[:at]
		}
		many--
	}
	return s
}

// applied answers what Apply is to answer.
func applied(f api.Field, v api.Value) (api.Value, api.Errno) {
	v = bare(v)
	switch {
	case !fine(f.Trans, f.Param) || f.Trans == 2 && v.Kind == 2:
		return null(), api.ErrSpecForm
	case v.Kind == 0 || f.Trans == 0:
		return v, api.OK
	case f.Trans == 1:
		return num(int(crc32.ChecksumIEEE(bytes(v))) % f.Param), api.OK
	case v.Kind == 1:
		return num(lowered(v.I, f.Param)), api.OK
	}
	return text(shortened(v.S, f.Param)), api.OK
}

// rowMay tells whether a row may be of a schema.
func rowMay(s api.Schema, r api.Row) bool {
	var had, asked []int
	for i, v := range r.V {
		kind := bare(v).Kind
		if kind == 0 && i < len(s.Columns) {
			kind = s.Columns[i].Kind
		}
		had = append(had, kind)
	}
	for _, c := range s.Columns {
		asked = append(asked, c.Kind)
	}
	return slices.Equal(had, asked)
}

// parted answers what Part is to answer.
func parted(p api.Spec, s api.Schema, r api.Row) ([]api.Value, api.Errno) {
	if !mayBe(p, s) || !rowMay(s, r) {
		return nil, api.ErrSpecForm
	}
	var vs []api.Value
	for _, f := range p.Fields {
		for i, c := range s.Columns {
			if c.Id == f.Source {
				v, _ := applied(f, r.V[i])
				vs = append(vs, v)
			}
		}
	}
	return vs, api.OK
}

// split answers what Split is to answer, by holding each Part against all ahead of it.
func split(p api.Spec, s api.Schema, rs []api.Row) ([]int, api.Errno) {
	if !mayBe(p, s) {
		return nil, api.ErrSpecForm
	}
	var unlike [][]api.Value
	var at []int
	for _, r := range rs {
		vs, e := parted(p, s, r)
		if e != api.OK {
			return nil, e
		}
		place := slices.IndexFunc(unlike, func(o []api.Value) bool { return slices.Equal(o, vs) })
		if place < 0 {
			place = len(unlike)
			unlike = append(unlike, vs)
		}
		at = append(at, place)
	}
	return at, api.OK
}

// What the tests ask.

// tellOne cuts what a fault tells of a value.
func tellOne(v api.Value) string {
	return "{" + strconv.Itoa(v.Kind) + " " + strconv.Itoa(v.I) + " " + strconv.FormatBool(v.B) + " " + strconv.QuoteToASCII(v.S[:min(len(v.S), 16)]) + " (" + strconv.Itoa(len(v.S)) + ")}"
}

// tell cuts what a fault tells of values.
func tell(vs []api.Value) string {
	said := strconv.Itoa(len(vs)) + " values:"
	for _, v := range vs[:min(len(vs), 13)] {
		said += " " + tellOne(v)
	}
	return said
}

// tellField tells a field.
func tellField(f api.Field) string {
	return "{" + strconv.Itoa(f.Source) + " " + strconv.Itoa(f.Trans) + " " + strconv.Itoa(f.Param) + "}"
}

// tellSpec cuts what a fault tells of a spec and of the Ids and kinds of a schema's columns.
func tellSpec(p api.Spec, s api.Schema) string {
	said := "{" + strconv.Itoa(p.Id)
	for _, f := range p.Fields[:min(len(p.Fields), 6)] {
		said += " " + tellField(f)
	}
	said += "} (" + strconv.Itoa(len(p.Fields)) + " fields) of"
	for _, c := range s.Columns[:min(len(s.Columns), 13)] {
		said += " " + strconv.Itoa(c.Id) + ":" + strconv.Itoa(c.Kind)
	}
	return said
}

// may asks whether a spec may be, of Part and Split too: they refuse one that may not be.
func may(t *testing.T, p api.Spec, s api.Schema, want bool) {
	t.Helper()
	if got := spec.May(p, s); got != want {
		t.Errorf("May(%s): %v", tellSpec(p, s), got)
	}
	r := nulls(len(s.Columns))
	if !want {
		parts(t, p, s, r, nil, api.ErrSpecForm)
		splits(t, p, s, nil, nil, api.ErrSpecForm)
		splits(t, p, s, []api.Row{r, r}, nil, api.ErrSpecForm)
		return
	}
	parts(t, p, s, r, nulls(len(p.Fields)).V, api.OK)
	splits(t, p, s, nil, nil, api.OK)
	splits(t, p, s, []api.Row{r, r}, []int{0, 0}, api.OK)
}

// applies asks what a field makes of a value; whose field it is plays no part.
func applies(t *testing.T, trans int, param int, v api.Value, want api.Value, wantE api.Errno) {
	t.Helper()
	for _, source := range []int{1, 0, -5, top + 1} {
		f := field(source, trans, param)
		if got, e := spec.Apply(f, v); got != want || e != wantE {
			t.Errorf("Apply(%s, %s): %s, %d, not %s, %d", tellField(f), tellOne(v), tellOne(got), e, tellOne(want), wantE)
		}
	}
}

// parts asks for a row's Part.
func parts(t *testing.T, p api.Spec, s api.Schema, r api.Row, want []api.Value, wantE api.Errno) {
	t.Helper()
	if got, e := spec.Part(p, s, r); !slices.Equal(got, want) || e != wantE {
		t.Errorf("Part(%s, %s): %s, %d, not %s, %d", tellSpec(p, s), tell(r.V), tell(got), e, tell(want), wantE)
	}
}

// splits asks for the places of rows' Parts.
func splits(t *testing.T, p api.Spec, s api.Schema, rs []api.Row, want []int, wantE api.Errno) {
	t.Helper()
	if got, e := spec.Split(p, s, rs); !slices.Equal(got, want) || e != wantE {
		t.Errorf("Split(%s, %d rows): %v, %d, not %v, %d", tellSpec(p, s), len(rs), got[:min(len(got), 30)], e, want[:min(len(want), 30)], wantE)
	}
}

// refused asks that a row has no Part, and that it has none among others.
func refused(t *testing.T, p api.Spec, s api.Schema, r api.Row) {
	t.Helper()
	parts(t, p, s, r, nil, api.ErrSpecForm)
	n := nulls(len(s.Columns))
	for _, rs := range [][]api.Row{{r}, {r, n}, {n, r}, {n, r, n}, {r, r}} {
		splits(t, p, s, rs, nil, api.ErrSpecForm)
	}
}

// judged asks all calls of a spec, a schema and rows, against what the test tells itself.
func judged(t *testing.T, p api.Spec, s api.Schema, rs []api.Row) {
	t.Helper()
	may(t, p, s, mayBe(p, s))
	for _, r := range rs {
		want, e := parted(p, s, r)
		parts(t, p, s, r, want, e)
		for _, f := range p.Fields {
			for _, v := range r.V {
				want, e := applied(f, v)
				applies(t, f.Trans, f.Param, v, want, e)
			}
		}
	}
	want, e := split(p, s, rs)
	splits(t, p, s, rs, want, e)
}

// rolls answers numbers that are the same in each run.
func rolls(seed uint64) *rand.Rand {
	return rand.New(rand.NewPCG(seed, 13))
}

// one answers one of some things.
func one[T any](r *rand.Rand, all ...T) T { return all[r.IntN(len(all))] }

// rolledValue answers a value of a kind or null, its other fields set at times.
func rolledValue(r *rand.Rand, kind int) api.Value {
	var v api.Value
	switch r.IntN(9) {
	case 0:
		return one(r, append(clothed(null()), api.Value{Kind: one(r, noKinds()...), I: 4, B: true, S: "z"})...)
	case 1, 2, 3:
		v = one(r, slices.DeleteFunc(some(), func(v api.Value) bool { return v.Kind != kind })...)
	case 4, 5:
		v = one(r, api.Value{I: r.IntN(3) - 1, B: r.IntN(2) == 0, S: one(r, "", "a", "b")})
	default:
		var s strings.Builder
		for range r.IntN(9) {
			s.WriteString(one(r, "a", "é", "日", "\U0001f600", "\xff", "\xe6", "\x97", "\xc3", string([]byte{byte(r.IntN(256))})))
		}
		v = api.Value{I: int(r.Uint64()) >> r.IntN(64), B: r.IntN(2) == 0, S: s.String()}
	}
	v = bare(api.Value{Kind: kind, I: v.I, B: v.B, S: v.S})
	return one(r, append(clothed(v), v)...)
}

// rolledSchema answers a schema that may be, its Ids in whatever row.
func rolledSchema(r *rand.Rand) api.Schema {
	many := 1 + r.IntN(12)
	s := api.Schema{Id: one(r, 0, r.IntN(top), top), Next: one(r, many+1, 20, top)}
	for i := range many {
		s.Columns = append(s.Columns, api.Column{Id: i + 1, Name: "c" + strconv.Itoa(i), Kind: one(r, kinds()...)})
	}
	r.Shuffle(many, func(i int, j int) { s.Columns[i].Id, s.Columns[j].Id = s.Columns[j].Id, s.Columns[i].Id })
	if at := r.IntN(many); s.Next > many+1 && r.IntN(2) == 0 {
		s.Columns[at].Id = s.Next - 1
	}
	return s
}

// rolledSpec answers a spec that may be of a schema.
func rolledSpec(r *rand.Rand, s api.Schema) api.Spec {
	p := api.Spec{Id: one(r, 0, r.IntN(top), top)}
	for range 2 * r.IntN(6) {
		c := one(r, s.Columns...)
		f := field(c.Id, r.IntN(3), one(r, append(fineParams(), 1+r.IntN(1024), 1+r.IntN(4))...))
		if f.Trans == id {
			f.Param = 0
		}
		taken := slices.ContainsFunc(p.Fields, func(o api.Field) bool { return o.Source == f.Source && o.Trans == f.Trans })
		if !taken && len(p.Fields) < 4 && !(f.Trans == cut && c.Kind == api.KindBool) {
			p.Fields = append(p.Fields, f)
		}
	}
	return p
}

// rolledRows answers at most so many rows of a schema, some of which come again.
func rolledRows(r *rand.Rand, s api.Schema, most int) []api.Row {
	var rs []api.Row
	for range r.IntN(most + 1) {
		if len(rs) > 0 && r.IntN(3) == 0 {
			rs = append(rs, one(r, rs...))
			continue
		}
		var made api.Row
		for _, c := range s.Columns {
			made.V = append(made.V, rolledValue(r, c.Kind))
		}
		rs = append(rs, made)
	}
	return rs
}
