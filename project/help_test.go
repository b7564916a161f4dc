package project_test

import (
	"math"
	"math/rand/v2"
	"slices"
	"strconv"
	"strings"
	"testing"
	"unicode/utf8"

	"boathouse/api"
	"boathouse/project"
)

// top is the greatest Id of a schema and the greatest Next, as the document writes it.
const top = 1<<31 - 1

// null, num, truth, text answer values with their kind's field alone.
func null() api.Value         { return api.Value{} }
func num(x int) api.Value     { return api.Value{Kind: api.KindInt, I: x} }
func truth(b bool) api.Value  { return api.Value{Kind: api.KindBool, B: b} }
func text(s string) api.Value { return api.Value{Kind: api.KindText, S: s} }

// values, row, rows are short for lists.
func values(vs ...api.Value) []api.Value { return vs }
func row(vs ...api.Value) api.Row        { return api.Row{V: vs} }
func rows(rs ...api.Row) []api.Row       { return rs }

// nulls answers a row of so many nulls.
func nulls(many int) api.Row { return api.Row{V: make([]api.Value, many)} }

// column answers a schema's column.
func column(id int, name string, kind int) api.Column {
	return api.Column{Id: id, Name: name, Kind: kind}
}

// of answers a schema that may be, if its columns may.
func of(columns ...api.Column) api.Schema {
	return api.Schema{Id: 3, Columns: columns, Next: 1000}
}

// ofColumns answers a schema of so many columns, by name c0 and on, with the Ids 1 and on.
func ofColumns(many int) api.Schema {
	var s api.Schema
	for i := range many {
		s.Columns = append(s.Columns, column(i+1, "c"+strconv.Itoa(i), kinds()[i%3]))
	}
	s.Next = many + 1
	return s
}

// wide answers a schema whose Ids are no places and don't rise.
func wide() api.Schema {
	return of(column(7, "a", api.KindInt), column(2, "b", api.KindText), column(4, "c", api.KindBool), column(29, "d", api.KindInt), column(3, "e", api.KindText))
}

// list is a column of a file with its values.
type list struct {
	id   int
	kind int
	vs   []api.Value
}

// file answers a file of columns, of as many rows as the first one has.
func file(lists ...list) api.Data {
	d := api.Data{Rows: len(lists[0].vs)}
	for _, l := range lists {
		d.Columns = append(d.Columns, api.Column{Id: l.id, Kind: l.kind})
		d.Values = append(d.Values, api.Row{V: l.vs})
	}
	return d
}

// fileOf answers a file of so many rows that was written under a schema, its values ordinary.
func fileOf(s api.Schema, many int) api.Data {
	columns := slices.Clone(s.Columns)
	slices.SortFunc(columns, func(a, b api.Column) int { return a.Id - b.Id })
	var lists []list
	for _, c := range columns {
		lists = append(lists, list{c.Id, c.Kind, ordinary(c, many)})
	}
	return file(lists...)
}

// ordinary answers so many values of a column, others for another Id.
func ordinary(c api.Column, many int) []api.Value {
	some := ofKind(c.Kind)
	var vs []api.Value
	for i := range many {
		vs = append(vs, some[(i*7+c.Id)%len(some)])
	}
	return vs
}

// changed answers a file that is d but for what a function does to it.
func changed(d api.Data, change func(d *api.Data)) api.Data {
	d.Columns = slices.Clone(d.Columns)
	d.Values = slices.Clone(d.Values)
	for i := range d.Values {
		d.Values[i].V = slices.Clone(d.Values[i].V)
	}
	change(&d)
	return d
}

// changedSchema answers a schema that is s but for what a function does to it.
func changedSchema(s api.Schema, change func(s *api.Schema)) api.Schema {
	s.Columns = slices.Clone(s.Columns)
	change(&s)
	return s
}

// kinds are those that a column may be of.
func kinds() []int { return []int{api.KindInt, api.KindBool, api.KindText} }

// noKinds are kinds that no value has and no column; the lowest bits of some are a column's kind.
func noKinds() []int {
	all := []int{4, 5, 7, 8, 9, 255, -1, -2, -3, -4, math.MinInt, math.MinInt + 1, math.MinInt + 3, math.MaxInt, math.MaxInt - 1}
	for bit := 8; bit < 63; bit += 8 {
		for low := range api.KindText + 1 {
			all = append(all, 1<<bit+low, -1<<bit+low)
		}
	}
	return all
}

// ofKind answers values of a kind, the edges among them, and null.
func ofKind(kind int) []api.Value {
	switch kind {
	case api.KindInt:
		return values(num(0), num(1), num(-1), null(), num(math.MaxInt), num(math.MinInt), num(1<<32), num(255))
	case api.KindBool:
		return values(truth(true), null(), truth(false))
	}
	return values(text(""), text("a"), text("ab"), null(), text("\x00"), text("é日"), text("\U0001f600"), text(strings.Repeat("x", 64)), text(strings.Repeat("é", 32)))
}

// clothed answers values that are one with v, some with fields that its kind doesn't name.
func clothed(v api.Value) []api.Value {
	var all []api.Value
	for _, other := range values(null(), api.Value{I: 1}, api.Value{B: true}, api.Value{S: "x"}, api.Value{S: strings.Repeat("x", 65)}, api.Value{I: math.MinInt, B: true, S: "\xff"}) {
		w := v
		if v.Kind != api.KindInt {
			w.I = other.I
		}
		if v.Kind != api.KindBool {
			w.B = other.B
		}
		if v.Kind != api.KindText {
			w.S = other.S
		}
		all = append(all, w)
	}
	return all
}

// What the calls are to answer, told once more without the layers below.

// bare answers a value with what counts of it alone.
func bare(v api.Value) api.Value {
	return []api.Value{{}, num(v.I), truth(v.B), text(v.S)}[max(0, slices.Index([]int{0, 1, 2, 3}, v.Kind))]
}

// unlike tells whether no two of some things are one.
func unlike[T comparable](all []T) bool {
	met := map[T]int{}
	for _, x := range all {
		met[x]++
	}
	return len(met) == len(all)
}

// isName tells whether a text is a name: nothing is left of it where the signs are taken away.
func isName(s string) bool {
	return s != "" && len(s) <= 16 && strings.Trim(s, "abcdefghijklmnopqrstuvwxyz0123456789_") == ""
}

// schemaMay tells whether a schema may be.
func schemaMay(s api.Schema) bool {
	var ids []int
	var names []string
	for _, c := range s.Columns {
		if c.Id < 1 || c.Id >= s.Next || !isName(c.Name) || !slices.Contains(kinds(), c.Kind) {
			return false
		}
		ids, names = append(ids, c.Id), append(names, c.Name)
	}
	return 0 < len(ids) && len(ids) < 13 && unlike(ids) && unlike(names) && s.Id >= 0 && s.Id <= top && s.Next <= top
}

// valueMay tells whether a file's column of a kind may hold a value.
func valueMay(kind int, v api.Value) bool {
	v = bare(v)
	return v.Kind == 0 || v.Kind == kind && len(v.S) <= 64 && utf8.ValidString(v.S)
}

// fileMay tells whether a file may be.
func fileMay(d api.Data) bool {
	var ids []int
	for i, c := range d.Columns {
		if i >= len(d.Values) || len(d.Values[i].V) != d.Rows || c.Id < 1 || c.Name != "" || !slices.Contains(kinds(), c.Kind) {
			return false
		}
		if slices.ContainsFunc(d.Values[i].V, func(v api.Value) bool { return !valueMay(c.Kind, v) }) {
			return false
		}
		ids = append(ids, c.Id)
	}
	return 0 < len(ids) && len(ids) < 13 && slices.IsSorted(ids) && unlike(ids) && len(d.Values) == len(ids) && d.Rows <= 4096
}

// toldTo answers what To is to answer: nulls first, then column by column what the file has.
func toldTo(s api.Schema, d api.Data) ([]api.Row, api.Errno) {
	if !schemaMay(s) || !fileMay(d) {
		return nil, api.ErrProjectForm
	}
	var rs []api.Row
	for range d.Rows {
		rs = append(rs, nulls(len(s.Columns)))
	}
	for i, c := range d.Columns {
		for j, asked := range s.Columns {
			if asked.Id != c.Id {
				continue
			}
			if asked.Kind != c.Kind {
				return nil, api.ErrProjectForm
			}
			for at, v := range d.Values[i].V {
				rs[at].V[j] = bare(v)
			}
		}
	}
	return rs, api.OK
}

// toldPick answers what Pick is to answer, by each row's values under their names.
func toldPick(s api.Schema, rs []api.Row, names []string) ([]api.Row, api.Errno) {
	there := map[string]int{}
	for _, c := range s.Columns {
		there[c.Name] = 1
	}
	for _, name := range names {
		if there[name] == 0 {
			return nil, api.ErrProjectForm
		}
	}
	var all []api.Row
	for _, r := range rs {
		if len(r.V) != len(s.Columns) {
			return nil, api.ErrProjectForm
		}
		under := map[string]api.Value{}
		for i, v := range r.V {
			under[s.Columns[i].Name] = bare(v)
		}
		var vs []api.Value
		for _, name := range names {
			vs = append(vs, under[name])
		}
		all = append(all, api.Row{V: vs})
	}
	if !schemaMay(s) {
		return nil, api.ErrProjectForm
	}
	return all, api.OK
}

// What the tests ask.

// tellOne cuts what a fault tells of a value.
func tellOne(v api.Value) string {
	return "{" + strconv.Itoa(v.Kind) + " " + strconv.Itoa(v.I) + " " + strconv.FormatBool(v.B) + " " + strconv.QuoteToASCII(v.S[:min(len(v.S), 12)]) + "}"
}

// tell cuts what a fault tells of rows.
func tell(rs []api.Row) string {
	said := strconv.Itoa(len(rs)) + " rows"
	for _, r := range rs[:min(len(rs), 5)] {
		said += "; " + strconv.Itoa(len(r.V)) + ":"
		for _, v := range r.V[:min(len(r.V), 13)] {
			said += " " + tellOne(v)
		}
	}
	return said
}

// tellColumns cuts what a fault tells of columns.
func tellColumns(columns []api.Column) string {
	said := "["
	for _, c := range columns[:min(len(columns), 13)] {
		said += " {" + strconv.Itoa(c.Id) + " " + strconv.QuoteToASCII(c.Name[:min(len(c.Name), 20)]) + " " + strconv.Itoa(c.Kind) + "}"
	}
	return said + " ]"
}

// tellSchema cuts what a fault tells of a schema.
func tellSchema(s api.Schema) string {
	return "schema " + strconv.Itoa(s.Id) + " of " + tellColumns(s.Columns) + ", next " + strconv.Itoa(s.Next)
}

// tellFile cuts what a fault tells of a file.
func tellFile(d api.Data) string {
	return "file of " + strconv.Itoa(d.Rows) + " rows, " + tellColumns(d.Columns) + ", column by column " + tell(d.Values)
}

// sameRows tells whether rows are one, field by field.
func sameRows(a []api.Row, b []api.Row) bool {
	return slices.EqualFunc(a, b, func(a api.Row, b api.Row) bool { return slices.Equal(a.V, b.V) })
}

// goes asks for a file's rows under a schema.
func goes(t *testing.T, s api.Schema, d api.Data, want []api.Row, wantE api.Errno) {
	t.Helper()
	if got, e := project.To(s, d); !sameRows(got, want) || e != wantE {
		t.Errorf("To(%s, %s): %s, %d, not %s, %d", tellSchema(s), tellFile(d), tell(got), e, tell(want), wantE)
	}
}

// goesNowhere asks that a file has no rows under a schema.
func goesNowhere(t *testing.T, s api.Schema, d api.Data) {
	t.Helper()
	goes(t, s, d, nil, api.ErrProjectForm)
}

// goesAsTold asks for a file's rows under a schema, against what the test tells itself.
func goesAsTold(t *testing.T, s api.Schema, d api.Data) {
	t.Helper()
	want, e := toldTo(s, d)
	goes(t, s, d, want, e)
}

// picks asks for rows' values of names.
func picks(t *testing.T, s api.Schema, rs []api.Row, names []string, want []api.Row, wantE api.Errno) {
	t.Helper()
	if got, e := project.Pick(s, rs, names); !sameRows(got, want) || e != wantE {
		t.Errorf("Pick(%s, %s, %q): %s, %d, not %s, %d", tellSchema(s), tell(rs), names[:min(len(names), 14)], tell(got), e, tell(want), wantE)
	}
}

// picksNone asks that rows are refused with these names.
func picksNone(t *testing.T, s api.Schema, rs []api.Row, names ...string) {
	t.Helper()
	picks(t, s, rs, names, nil, api.ErrProjectForm)
}

// picksAsTold asks for rows' values of names, against what the test tells itself.
func picksAsTold(t *testing.T, s api.Schema, rs []api.Row, names ...string) {
	t.Helper()
	want, e := toldPick(s, rs, names)
	picks(t, s, rs, names, want, e)
}

// rolls answers numbers that are the same in each run.
func rolls(seed uint64) *rand.Rand {
	return rand.New(rand.NewPCG(seed, 14))
}

// one answers one of some things.
func one[T any](r *rand.Rand, all ...T) T { return all[r.IntN(len(all))] }

// rolledValue answers a value of a kind or null, its other fields set at times.
func rolledValue(r *rand.Rand, kind int) api.Value {
	switch r.IntN(6) {
	case 0:
		return api.Value{Kind: one(r, append(noKinds(), 0)...), I: r.IntN(3), B: r.IntN(2) == 0, S: one(r, "", "z", "\xff")}
	case 1:
		return bare(api.Value{Kind: kind, I: int(r.Uint64()) >> r.IntN(64), B: r.IntN(2) == 0, S: one(r, "", "é", "b") + strconv.Itoa(r.IntN(1000))})
	}
	return one(r, clothed(one(r, ofKind(kind)...))...)
}

// rolledSchema answers a schema that may be, its Ids among the first 20 and in whatever row.
func rolledSchema(r *rand.Rand) api.Schema {
	many := 1 + r.IntN(12)
	s := api.Schema{Id: one(r, 0, r.IntN(top), top), Next: one(r, 21, 22, top)}
	names := r.Perm(20)
	for i, id := range r.Perm(20)[:many] {
		s.Columns = append(s.Columns, column(id+1, "c"+strconv.Itoa(names[i]), one(r, kinds()...)))
	}
	return s
}

// rolledFile answers a file that may be, its columns' Kinds those of a schema's of their Ids, but for one in a while.
func rolledFile(r *rand.Rand, s api.Schema) api.Data {
	var lists []list
	many := one(r, 0, 1, 2, r.IntN(20))
	ids := r.Perm(20)[:1+r.IntN(12)]
	slices.Sort(ids)
	for _, id := range ids {
		kind := one(r, kinds()...)
		for _, c := range s.Columns {
			if c.Id == id+1 && r.IntN(40) > 0 {
				kind = c.Kind
			}
		}
		var vs []api.Value
		for range many {
			vs = append(vs, rolledValue(r, kind))
		}
		lists = append(lists, list{id + 1, kind, vs})
	}
	return file(lists...)
}

// rolledRows answers at most so many rows of a schema.
func rolledRows(r *rand.Rand, s api.Schema, most int) []api.Row {
	var rs []api.Row
	for range r.IntN(most + 1) {
		var made api.Row
		for _, c := range s.Columns {
			made.V = append(made.V, rolledValue(r, one(r, c.Kind, one(r, kinds()...))))
		}
		rs = append(rs, made)
	}
	return rs
}

// rolledNames answers names of a schema, some of them more than once.
func rolledNames(r *rand.Rand, s api.Schema) []string {
	var names []string
	for range r.IntN(15) {
		names = append(names, one(r, s.Columns...).Name)
	}
	return names
}
