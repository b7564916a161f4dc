package project_test

import (
	"math"
	"slices"
	"strconv"
	"strings"
	"testing"
	"time"

	"boathouse/api"
)

// P14.1 To: ordinary files, by hand

// old is a file of three rows that was written under a, b, c of the Ids 1, 2, 3.
func old() api.Data {
	return file(
		list{1, api.KindInt, values(num(7), null(), num(-9))},
		list{2, api.KindText, values(text("x"), text(""), null())},
		list{3, api.KindBool, values(truth(false), truth(true), truth(true))},
	)
}

// a, b, c are the columns that it was written under.
func a() api.Column { return column(1, "a", api.KindInt) }
func b() api.Column { return column(2, "b", api.KindText) }
func c() api.Column { return column(3, "c", api.KindBool) }

func TestByHand(t *testing.T) {
	renamed := func(c api.Column, name string) api.Column { return column(c.Id, name, c.Kind) }
	for _, k := range []struct {
		why  string
		s    api.Schema
		want []api.Row
	}{
		{"as it was written", of(a(), b(), c()), rows(row(num(7), text("x"), truth(false)), row(null(), text(""), truth(true)), row(num(-9), null(), truth(true)))},
		{"a column more", of(a(), b(), c(), column(4, "d", api.KindInt)), rows(row(num(7), text("x"), truth(false), null()), row(null(), text(""), truth(true), null()), row(num(-9), null(), truth(true), null()))},
		{"columns more, at the front and between", of(column(9, "e", api.KindText), a(), b(), column(4, "d", api.KindInt), c()), rows(row(null(), num(7), text("x"), null(), truth(false)), row(null(), null(), text(""), null(), truth(true)), row(null(), num(-9), null(), null(), truth(true)))},
		{"the first one gone", of(b(), c()), rows(row(text("x"), truth(false)), row(text(""), truth(true)), row(null(), truth(true)))},
		{"the middle one gone", of(a(), c()), rows(row(num(7), truth(false)), row(null(), truth(true)), row(num(-9), truth(true)))},
		{"the last one gone", of(a(), b()), rows(row(num(7), text("x")), row(null(), text("")), row(num(-9), null()))},
		{"two gone", of(b()), rows(row(text("x")), row(text("")), row(null()))},
		{"a name changed", of(a(), renamed(b(), "z"), c()), rows(row(num(7), text("x"), truth(false)), row(null(), text(""), truth(true)), row(num(-9), null(), truth(true)))},
		{"names turned about", of(renamed(a(), "c"), renamed(b(), "a"), renamed(c(), "b")), rows(row(num(7), text("x"), truth(false)), row(null(), text(""), truth(true)), row(num(-9), null(), truth(true)))},
		{"in another row", of(c(), a(), b()), rows(row(truth(false), num(7), text("x")), row(truth(true), null(), text("")), row(truth(true), num(-9), null()))},
		{"turned about", of(c(), b(), a()), rows(row(truth(false), text("x"), num(7)), row(truth(true), text(""), null()), row(truth(true), null(), num(-9)))},
		{"all at once", of(column(5, "a", api.KindBool), renamed(c(), "b"), column(4, "c", api.KindText), renamed(a(), "x")), rows(row(null(), truth(false), null(), num(7)), row(null(), truth(true), null(), null()), row(null(), truth(true), null(), num(-9)))},
		{"gone and there again", of(b(), c(), column(4, "a", api.KindInt)), rows(row(text("x"), truth(false), null()), row(text(""), truth(true), null()), row(null(), truth(true), null()))},
		{"there again of another kind", of(b(), c(), column(4, "a", api.KindText)), rows(row(text("x"), truth(false), null()), row(text(""), truth(true), null()), row(null(), truth(true), null()))},
		{"all others", of(column(4, "a", api.KindInt), column(5, "b", api.KindText), column(6, "c", api.KindBool)), rows(nulls(3), nulls(3), nulls(3))},
		{"one other", of(column(999, "a", api.KindInt)), rows(nulls(1), nulls(1), nulls(1))},
	} {
		goes(t, k.s, old(), k.want, api.OK)
		// The test's own telling says of them what is written by hand.
		if told, e := toldTo(k.s, old()); !sameRows(told, k.want) || e != api.OK {
			t.Errorf("%s: %s, %d", k.why, tell(told), e)
		}
	}
}

// Neither a schema's Id and Next nor where the file's Ids lie plays a part.
func TestIdsByHand(t *testing.T) {
	for _, ids := range [][2]int{{1, 2}, {1, 100}, {500, top - 1}, {top - 2, top - 1}, {127, 128}, {255, 257}} {
		d := file(list{ids[0], api.KindInt, values(num(5), num(6))}, list{ids[1], api.KindInt, values(num(8), null())})
		for _, id := range []int{0, 1, top} {
			s := api.Schema{Id: id, Next: top, Columns: []api.Column{column(ids[1], "b", api.KindInt), column(ids[0], "a", api.KindInt)}}
			goes(t, s, d, rows(row(num(8), num(5)), row(null(), num(6))), api.OK)
		}
	}
	// A file's Ids may be greater than any schema's, and those that are the same but for high bits are others.
	for _, id := range []int{top, top + 1, 1 << 32, 1<<32 + 1, math.MaxInt} {
		d := file(list{id, api.KindInt, values(num(5))})
		goes(t, of(a()), d, rows(nulls(1)), api.OK)
		d = file(list{1, api.KindInt, values(num(4))}, list{id, api.KindText, values(text("x"))})
		goes(t, of(a(), b()), d, rows(row(num(4), null())), api.OK)
	}
}

// P14.1 To: sizes

func TestSizes(t *testing.T) {
	began := time.Now()
	for _, columns := range []int{1, 2, 11, 12} {
		for _, wanted := range []int{1, 2, 3, 11, 12} {
			for _, many := range []int{0, 1, 2, 63, 64, 65, 4095, 4096} {
				d := fileOf(ofColumns(columns), many)
				goesAsTold(t, ofColumns(wanted), d)
				if got, _ := toldTo(ofColumns(wanted), d); len(got) != many {
					t.Errorf("%d rows, not %d", len(got), many)
				}
				shifted := changedSchema(ofColumns(wanted), func(s *api.Schema) {
					for i := range s.Columns {
						s.Columns[i].Id += 3
					}
					s.Next = 50
				})
				goesAsTold(t, shifted, d)
			}
		}
	}
	if took := time.Since(began); took > 60*time.Second {
		t.Errorf("took %s", took)
	}
}

// A file may be that has more bytes than Put takes; its rows are answered all the same.
func TestMoreThanBytesOfAFile(t *testing.T) {
	var lists []list
	s := of()
	for id := 1; id < 13; id++ {
		var vs []api.Value
		for i := range 4096 {
			vs = append(vs, text(strings.Repeat("x", 50)+strconv.Itoa(id*5000+i)))
		}
		lists = append(lists, list{id, api.KindText, vs})
		s.Columns = append(s.Columns, column(id, "c"+strconv.Itoa(id), api.KindText))
	}
	began := time.Now()
	goesAsTold(t, s, file(lists...))
	slices.Reverse(s.Columns)
	goesAsTold(t, s, file(lists...))
	if took := time.Since(began); took > 20*time.Second {
		t.Errorf("took %s", took)
	}
}

// P14.1 To: a column of another Kind

// A column is refused of which the file has another Kind, wherever it stands in either, and without rows too.
func TestOtherKinds(t *testing.T) {
	for _, columns := range []int{1, 2, 3, 12} {
		for _, many := range []int{0, 1, 5} {
			s := ofColumns(columns)
			d := fileOf(s, many)
			goesAsTold(t, s, d)
			for at := range columns {
				for _, kind := range kinds() {
					other := changedSchema(s, func(s *api.Schema) { s.Columns[at].Kind = kind })
					if kind != s.Columns[at].Kind {
						goesNowhere(t, other, d)
						slices.Reverse(other.Columns)
						goesNowhere(t, other, d)
						// Nulls alone are of the column's Kind as well.
						goesNowhere(t, other, changed(d, func(d *api.Data) { d.Values[at] = nulls(many) }))
						// It is refused if it alone is asked for.
						other.Columns = slices.DeleteFunc(other.Columns, func(c api.Column) bool { return c.Id != at+1 })
						goesNowhere(t, other, d)
						continue
					}
					goesAsTold(t, other, d)
				}
			}
		}
	}
}

// A column that the schema has none of may be of any Kind, under a name that the schema has too.
func TestAnyKindOfColumnsThatAreGone(t *testing.T) {
	for _, kind := range kinds() {
		for _, other := range kinds() {
			d := file(list{1, kind, ofKind(kind)[:3]}, list{2, api.KindInt, values(num(1), num(2), num(3))})
			s := of(column(2, "b", api.KindInt), column(5, "a", other))
			goes(t, s, d, rows(row(num(1), null()), row(num(2), null()), row(num(3), null())), api.OK)
		}
	}
}

// P14.1 To: values

// Values are answered with their Kind's field alone.
func TestValues(t *testing.T) {
	for _, kind := range kinds() {
		for _, v := range ofKind(kind) {
			for _, w := range clothed(v) {
				d := file(list{4, kind, values(w, null(), w)})
				goes(t, of(column(4, "a", kind)), d, rows(row(v), row(null()), row(v)), api.OK)
			}
		}
		// Null, in whatever clothes, and of a Kind that is none.
		for _, none := range append(noKinds(), api.KindNull) {
			for _, w := range clothed(api.Value{Kind: none}) {
				d := file(list{4, kind, values(w)}, list{5, api.KindInt, values(num(3))})
				goes(t, of(column(5, "b", api.KindInt), column(4, "a", kind)), d, rows(row(num(3), null())), api.OK)
			}
		}
	}
}

// P14.1 To: what may not be

// wrongSchemas are schemas that may not be, whose columns the file old has.
func wrongSchemas() []api.Schema {
	fine := of(a(), b(), c())
	all := []api.Schema{
		{}, {Next: 9}, of(), of(make([]api.Column, 3)...), changedSchema(ofColumns(12), func(s *api.Schema) { s.Columns, s.Next = append(s.Columns, column(13, "x", 1)), 14 }),
		of(column(1, "a", 1), column(1, "b", 1)), of(column(2, "b", 3), column(1, "b", 1)), of(a(), a()), of(column(1, "a", 1), b(), column(3, "a", 2)),
	}
	for _, id := range []int{-1, math.MinInt, top + 1, math.MaxInt, 1 << 32} {
		all = append(all, changedSchema(fine, func(s *api.Schema) { s.Id = id }))
	}
	for _, next := range []int{3, 2, 1, 0, -1, math.MinInt, top + 1, 1<<32 + 9, math.MaxInt} {
		all = append(all, changedSchema(fine, func(s *api.Schema) { s.Next = next }))
	}
	for at := range 3 {
		for _, id := range []int{0, -1, 1000, 1001, top, 1<<32 + 1, math.MinInt, math.MaxInt} {
			all = append(all, changedSchema(fine, func(s *api.Schema) { s.Columns[at].Id = id }))
		}
		for _, name := range []string{"", " ", "A", "a b", "é", "a-", "\xff", strings.Repeat("a", 17)} {
			all = append(all, changedSchema(fine, func(s *api.Schema) { s.Columns[at].Name = name }))
		}
		for _, kind := range append(noKinds(), api.KindNull) {
			all = append(all, changedSchema(fine, func(s *api.Schema) { s.Columns[at].Kind = kind }))
		}
	}
	return all
}

func TestWrongSchemas(t *testing.T) {
	for _, s := range wrongSchemas() {
		if schemaMay(s) {
			t.Errorf("%s may be", tellSchema(s))
		}
		goesNowhere(t, s, old())
		goesNowhere(t, s, fileOf(ofColumns(3), 0))
		goesNowhere(t, s, fileOf(ofColumns(12), 2))
		// Nor has a file that has none of its columns.
		goesNowhere(t, s, file(list{500, api.KindInt, values(num(1))}))
	}
}

// wrongFiles are files of so many columns and rows that may not be, each for one thing.
func wrongFiles(columns int, many int) []api.Data {
	s := ofColumns(columns)
	fine := fileOf(s, many)
	var all []api.Data
	add := func(change func(d *api.Data)) { all = append(all, changed(fine, change)) }
	for _, rows := range []int{-1, many - 1, many + 1, 4097, 1 << 32, 1<<32 + many, math.MinInt, math.MaxInt} {
		add(func(d *api.Data) { d.Rows = rows })
	}
	add(func(d *api.Data) { d.Columns, d.Values = nil, nil })
	add(func(d *api.Data) { d.Columns = nil })
	add(func(d *api.Data) { d.Values = nil })
	add(func(d *api.Data) { d.Columns = d.Columns[1:] })
	add(func(d *api.Data) { d.Columns = append(d.Columns, api.Column{Id: 50, Kind: api.KindInt}) })
	add(func(d *api.Data) { d.Values = d.Values[1:] })
	add(func(d *api.Data) { d.Values = append(d.Values, nulls(many)) })
	add(func(d *api.Data) { d.Values = append(d.Values, api.Row{}) })
	for at := range columns {
		add(func(d *api.Data) { d.Values = slices.Delete(d.Values, at, at+1) })
		add(func(d *api.Data) { d.Columns = slices.Delete(d.Columns, at, at+1) })
		// Its own is one more than its place.
		for _, id := range []int{0, -1, math.MinInt, at} {
			add(func(d *api.Data) { d.Columns[at].Id = id })
		}
		if at+1 < columns {
			add(func(d *api.Data) { d.Columns[at].Id = at + 2 })
			add(func(d *api.Data) { d.Columns[at].Id = math.MaxInt })
		}
		for _, name := range []string{"c" + strconv.Itoa(at), "a", " ", "\x00"} {
			add(func(d *api.Data) { d.Columns[at].Name = name })
		}
		for _, kind := range append(noKinds(), api.KindNull) {
			add(func(d *api.Data) { d.Columns[at].Kind = kind })
		}
		add(func(d *api.Data) { d.Values[at].V = append(d.Values[at].V, null()) })
		if many > 0 {
			add(func(d *api.Data) { d.Values[at].V = d.Values[at].V[1:] })
			add(func(d *api.Data) { d.Values[at].V = nil })
		}
		for i := range many {
			for _, v := range wrongValues(s.Columns[at].Kind) {
				add(func(d *api.Data) { d.Values[at].V[i] = v })
			}
		}
	}
	return all
}

// wrongValues are values that a column of a kind doesn't hold.
func wrongValues(kind int) []api.Value {
	all := values(num(0), truth(false), text(""), api.Value{Kind: api.KindInt, I: 1, B: true, S: "x"}, text("\xff"), text("a\xc3"), text("\xed\xa0\x80"), text(strings.Repeat("x", 65)), text(strings.Repeat("é", 33)), text(strings.Repeat("x", 65536)))
	return slices.DeleteFunc(all, func(v api.Value) bool { return valueMay(kind, v) })
}

func TestWrongFiles(t *testing.T) {
	for _, columns := range []int{1, 2, 3, 12} {
		for _, many := range []int{0, 1, 3} {
			s := ofColumns(columns)
			goesAsTold(t, s, fileOf(s, many))
			last := changedSchema(s, func(s *api.Schema) { s.Columns = s.Columns[columns-1:] })
			for _, d := range wrongFiles(columns, many) {
				if fileMay(d) {
					t.Errorf("%s may be", tellFile(d))
				}
				goesNowhere(t, s, d)
				// What is wrong is wrong in a column as well that nobody asks for.
				goesNowhere(t, last, d)
				goesNowhere(t, of(column(500, "x", api.KindInt)), d)
				goesNowhere(t, api.Schema{}, d)
			}
		}
	}
}

func TestTooManyColumnsAndRows(t *testing.T) {
	wide := fileOf(ofColumns(13), 2)
	goesNowhere(t, ofColumns(12), wide)
	goesNowhere(t, ofColumns(1), wide)
	long := fileOf(ofColumns(2), 4097)
	goesNowhere(t, ofColumns(2), long)
	goesNowhere(t, ofColumns(1), long)
	goesNowhere(t, ofColumns(1), fileOf(ofColumns(1), 8192))
	goesNowhere(t, ofColumns(1), api.Data{})
	goesNowhere(t, ofColumns(1), api.Data{Rows: 1})
	goesNowhere(t, api.Schema{}, api.Data{})
}

// What is far too great is refused soon.
func TestFarTooGreat(t *testing.T) {
	began := time.Now()
	const many = 65536
	great := ofColumns(many)
	full := fileOf(great, 1)
	goesNowhere(t, great, full)
	goesNowhere(t, great, old())
	goesNowhere(t, ofColumns(1), full)
	goesNowhere(t, ofColumns(1), fileOf(ofColumns(1), many*16))
	goesNowhere(t, ofColumns(1), file(list{1, api.KindText, slices.Repeat(values(text(strings.Repeat("x", many))), 4096)}))
	names := slices.Repeat([]string{great.Columns[many-1].Name}, many)
	picksNone(t, great, slices.Repeat(rows(nulls(many)), 16), names...)
	picksNone(t, great, nil, names...)
	if took := time.Since(began); took > 20*time.Second {
		t.Errorf("took %s", took)
	}
}

// R6: whatever else is wrong, the error is one.
func TestSeveralErrors(t *testing.T) {
	otherKind := file(list{1, api.KindText, values(text("x"))}, list{2, api.KindText, nulls(1).V})
	for _, s := range append(wrongSchemas(), of(a(), b(), c())) {
		for _, d := range []api.Data{otherKind, changed(otherKind, func(d *api.Data) { d.Rows = 2 }), changed(otherKind, func(d *api.Data) { d.Columns[1].Id = 1 }), changed(old(), func(d *api.Data) { d.Columns[2].Kind, d.Values[1].V = api.KindText, nil })} {
			goesNowhere(t, s, d)
		}
	}
}

// P14.1 To: all small schemas and files, and rolled ones

// someColumns are all lists of at most so many of these columns, no Id twice, in each row.
func someColumns(most int, few []api.Column) [][]api.Column {
	lists := [][]api.Column{nil}
	for at := 0; at < len(lists); at++ {
		if len(lists[at]) == most {
			continue
		}
		for _, c := range few {
			if !slices.ContainsFunc(lists[at], func(o api.Column) bool { return o.Id == c.Id }) {
				lists = append(lists, append(slices.Clone(lists[at]), c))
			}
		}
	}
	return lists
}

func TestAllSmallOnes(t *testing.T) {
	var few []api.Column
	for id := 1; id <= 4; id++ {
		few = append(few, column(id, "c"+strconv.Itoa(id), api.KindInt), column(id, "c"+strconv.Itoa(id), api.KindBool))
	}
	schemas := someColumns(3, few)
	for _, columns := range someColumns(3, few) {
		for _, many := range []int{0, 2} {
			d := api.Data{Rows: many}
			for _, c := range columns {
				d.Columns = append(d.Columns, api.Column{Id: c.Id, Kind: c.Kind})
				d.Values = append(d.Values, api.Row{V: ordinary(c, many)})
			}
			for _, asked := range schemas {
				goesAsTold(t, of(asked...), d)
			}
		}
	}
}

func TestRolledOnes(t *testing.T) {
	r := rolls(1)
	fine := 0
	for range 20000 {
		s := rolledSchema(r)
		d := rolledFile(r, s)
		goesAsTold(t, s, d)
		if _, e := toldTo(s, d); e == api.OK {
			fine++
		}
		// One thing is spoilt, or not.
		at := r.IntN(len(d.Columns))
		switch r.IntN(6) {
		case 0:
			d.Rows = one(r, d.Rows-1, d.Rows, d.Rows+1)
		case 1:
			d.Columns[at].Id = r.IntN(21)
		case 2:
			d.Columns[at].Kind = one(r, kinds()...)
		case 3:
			d.Values[at].V = append(d.Values[at].V, null())
		case 4:
			s.Columns[r.IntN(len(s.Columns))].Id = r.IntN(23)
		case 5:
			s.Columns[r.IntN(len(s.Columns))].Kind = one(r, kinds()...)
		}
		goesAsTold(t, s, d)
	}
	if fine < 10000 {
		t.Errorf("%d of 20000 only may be", fine)
	}
}
