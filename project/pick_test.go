package project_test

import (
	"slices"
	"strconv"
	"strings"
	"testing"
	"time"

	"boathouse/api"
)

// P14.1 Pick: ordinary names and rows, by hand

// three are rows of a, b, c.
func three() []api.Row {
	return rows(row(num(7), text("x"), truth(false)), row(null(), text(""), truth(true)), row(num(-9), null(), null()))
}

func TestNamesByHand(t *testing.T) {
	s := of(a(), b(), c())
	for _, k := range []struct {
		names []string
		want  []api.Row
	}{
		{[]string{"a", "b", "c"}, three()},
		{[]string{"c", "b", "a"}, rows(row(truth(false), text("x"), num(7)), row(truth(true), text(""), null()), row(null(), null(), num(-9)))},
		{[]string{"b", "c", "a"}, rows(row(text("x"), truth(false), num(7)), row(text(""), truth(true), null()), row(null(), null(), num(-9)))},
		{[]string{"a"}, rows(row(num(7)), row(null()), row(num(-9)))},
		{[]string{"b"}, rows(row(text("x")), row(text("")), row(null()))},
		{[]string{"c"}, rows(row(truth(false)), row(truth(true)), row(null()))},
		{[]string{"c", "a"}, rows(row(truth(false), num(7)), row(truth(true), null()), row(null(), num(-9)))},
		{[]string{"b", "b"}, rows(row(text("x"), text("x")), row(text(""), text("")), row(null(), null()))},
		{[]string{"a", "c", "a"}, rows(row(num(7), truth(false), num(7)), row(null(), truth(true), null()), row(num(-9), null(), num(-9)))},
		{[]string{"a", "b", "c", "b", "a"}, rows(row(num(7), text("x"), truth(false), text("x"), num(7)), row(null(), text(""), truth(true), text(""), null()), row(num(-9), null(), null(), null(), num(-9)))},
		{nil, rows(row(), row(), row())},
		{[]string{}, rows(row(), row(), row())},
	} {
		picks(t, s, three(), k.names, k.want, api.OK)
		picks(t, s, nil, k.names, nil, api.OK)
		picks(t, s, []api.Row{}, k.names, nil, api.OK)
		picks(t, s, three()[1:2], k.names, k.want[1:2], api.OK)
		// The test's own telling says of them what is written by hand.
		if told, e := toldPick(s, three(), k.names); !sameRows(told, k.want) || e != api.OK {
			t.Errorf("%q: %s, %d", k.names, tell(told), e)
		}
	}
}

// Neither Ids nor Next play a part, nor do Kinds: where a name stands in the schema is what counts.
func TestPlacesByHand(t *testing.T) {
	rs := rows(row(num(1), text("x"), truth(true), num(2), text("y")))
	picks(t, wide(), rs, []string{"e", "d", "a", "b", "c"}, rows(row(text("y"), num(2), num(1), text("x"), truth(true))), api.OK)
	for _, id := range []int{0, 1, top} {
		s := api.Schema{Id: id, Next: top, Columns: []api.Column{column(top-1, "c1", api.KindInt), column(1, "c0", api.KindText)}}
		picks(t, s, rows(row(num(3), text("z"))), []string{"c0", "c1", "c0"}, rows(row(text("z"), num(3), text("z"))), api.OK)
	}
}

// Names that are much like others.
func TestNamesMuchAlike(t *testing.T) {
	s := of(column(1, "a", 1), column(2, "aa", 1), column(3, "a_", 1), column(4, "_", 1), column(5, "0", 1), column(6, "a0", 1), column(7, "abcdefghijklmnop", 1), column(8, "abcdefghijklmnoo", 1), column(9, "aaaaaaaaaaaaaaaa", 1))
	var r api.Row
	for i := range s.Columns {
		r.V = append(r.V, num(i*11))
	}
	for i, c := range s.Columns {
		picks(t, s, rows(r), []string{c.Name}, rows(row(num(i*11))), api.OK)
	}
	for _, name := range []string{"", "A", "a ", " a", "a\x00", "aaa", "__", "00", "abcdefghijklmno", "abcdefghijklmnopq", "abcdefghijklmnoP", "b", "é", "\xff", "a,aa", strings.Repeat("a", 65536)} {
		picksNone(t, s, rows(r), name)
		picksNone(t, s, nil, name)
	}
}

// P14.1 Pick: a name that is none of the schema's

func TestWrongNames(t *testing.T) {
	s := of(a(), b(), c())
	for _, name := range []string{"d", "", "A", "ab", "1", " ", "a ", "\x00", "c0"} {
		for _, rs := range [][]api.Row{nil, {}, three(), three()[:1]} {
			picksNone(t, s, rs, name)
			picksNone(t, s, rs, name, name)
			for _, others := range [][]string{{"a"}, {"a", "b"}, {"c", "b", "a"}, {"a", "a", "a", "a"}} {
				picksAsTold(t, s, rs, others...)
				for at := range len(others) + 1 {
					picksNone(t, s, rs, slices.Insert(slices.Clone(others), at, name)...)
				}
			}
		}
	}
	// A name that was one ahead of a change is none.
	picksNone(t, of(column(1, "z", api.KindInt), b(), c()), three(), "a")
	picksNone(t, of(b(), c()), rows(row(text("x"), null())), "a")
}

// P14.1 Pick: rows of fewer or more values than columns

func TestWrongRows(t *testing.T) {
	for _, columns := range []int{1, 2, 3, 12} {
		s := ofColumns(columns)
		for _, many := range []int{1, 2, 3, 10, 64, 65} {
			var rs []api.Row
			for i := range many {
				var r api.Row
				for _, c := range s.Columns {
					r.V = append(r.V, ordinary(c, i+1)[i])
				}
				rs = append(rs, r)
			}
			lists := [][]string{nil, {"c0"}, {s.Columns[columns-1].Name, "c0"}}
			for _, names := range lists {
				picksAsTold(t, s, rs, names...)
			}
			for at := range many {
				for _, values := range []int{0, 1, columns - 1, columns + 1, columns * 2, 13, 200} {
					if values == columns {
						continue
					}
					with := slices.Clone(rs)
					with[at] = nulls(values)
					for _, names := range lists {
						picksNone(t, s, with, names...)
					}
				}
				with := slices.Clone(rs)
				with[at].V = append(slices.Clone(rs[at].V), null())
				picksNone(t, s, with, "c0")
				with[at].V = rs[at].V[1:]
				picksNone(t, s, with, "c0")
				with[at].V = rs[at].V[:columns-1]
				picksNone(t, s, with, "c0")
				picksNone(t, s, with)
			}
		}
	}
}

// P14.1 Pick: values

// Values are answered with their Kind's field alone. The document asks of a row
// how many values it has and no more: one of another Kind than the column's is
// picked, and a text that no file holds.
func TestPickedValues(t *testing.T) {
	s := of(a(), b(), c())
	var all []api.Value
	for _, kind := range kinds() {
		all = append(all, ofKind(kind)...)
	}
	all = append(all, text("\xff"), text("a\xc3"), text(strings.Repeat("x", 65)), text(strings.Repeat("x", 65536)))
	for _, v := range all {
		for _, w := range clothed(v) {
			picks(t, s, rows(row(w, null(), w), row(null(), w, null())), []string{"c", "b"}, rows(row(v, null()), row(null(), v)), api.OK)
		}
	}
	for _, none := range append(noKinds(), api.KindNull) {
		for _, w := range clothed(api.Value{Kind: none}) {
			picks(t, s, rows(row(num(5), w, w)), []string{"a", "b", "c"}, rows(row(num(5), null(), null())), api.OK)
		}
	}
}

// P14.1 Pick: a schema that may not be

func TestPicksOfWrongSchemas(t *testing.T) {
	for _, s := range wrongSchemas() {
		rs := rows(nulls(len(s.Columns)))
		picksNone(t, s, nil)
		picksNone(t, s, rs)
		picksNone(t, s, append(rs, rs...))
		picksNone(t, s, three(), "a")
		for _, c := range s.Columns {
			picksNone(t, s, nil, c.Name)
			picksNone(t, s, rs, c.Name)
		}
	}
}

// R6: whatever else is wrong, the error is one.
func TestSeveralErrorsOfPicks(t *testing.T) {
	for _, s := range append(wrongSchemas(), of(a(), b(), c())) {
		for _, rs := range [][]api.Row{nil, three(), rows(row()), rows(nulls(len(s.Columns)), nulls(len(s.Columns)+1))} {
			picksNone(t, s, rs, "none of them")
			picksNone(t, s, rs, "a", "")
			picksAsTold(t, s, rs, "a")
			picksAsTold(t, s, rs)
		}
	}
}

// P14.1 Pick: sizes

// As many rows as a table has, and more, and more names than columns, end soon.
func TestManyRowsAndNames(t *testing.T) {
	began := time.Now()
	s := ofColumns(12)
	var rs []api.Row
	for i := range 20000 {
		var r api.Row
		for _, c := range s.Columns {
			r.V = append(r.V, ofKind(c.Kind)[(i+c.Id)%3])
		}
		rs = append(rs, r)
	}
	var all, many []string
	for _, c := range s.Columns {
		all = append(all, c.Name)
	}
	for i := range 5000 {
		many = append(many, "c"+strconv.Itoa(i*5%12))
	}
	for _, size := range []int{4095, 4096, 4097, 20000} {
		picks(t, s, rs[:size], all, rs[:size], api.OK)
		picks(t, s, rs[:size], nil, make([]api.Row, size), api.OK)
		picksNone(t, s, append(rs[:size:size], nulls(11)), all...)
		picksNone(t, s, rs[:size], append(all, "c12")...)
	}
	picksAsTold(t, s, rs[:100], many...)
	picks(t, s, nil, slices.Repeat(many, 50), nil, api.OK)
	if took := time.Since(began); took > 20*time.Second {
		t.Errorf("took %s", took)
	}
}

// P14.1 Pick: all short lists of names and rows, and rolled ones

func TestAllShortPicks(t *testing.T) {
	s := of(a(), b(), c())
	lists := [][]string{nil}
	for at := 0; at < len(lists); at++ {
		if len(lists[at]) < 4 {
			for _, name := range []string{"a", "b", "c", "d"} {
				lists = append(lists, append(slices.Clone(lists[at]), name))
			}
		}
	}
	few := []api.Row{three()[0], three()[1], nulls(2), nulls(4)}
	tables := [][]api.Row{nil}
	for at := 0; at < len(tables); at++ {
		for _, names := range lists {
			picksAsTold(t, s, tables[at], names...)
		}
		if len(tables[at]) < 3 {
			for _, r := range few {
				tables = append(tables, append(slices.Clone(tables[at]), r))
			}
		}
	}
}

func TestRolledPicks(t *testing.T) {
	r := rolls(2)
	for range 10000 {
		s := rolledSchema(r)
		rs, names := rolledRows(r, s, 12), rolledNames(r, s)
		picksAsTold(t, s, rs, names...)
		// One thing is spoilt, or not.
		switch r.IntN(4) {
		case 0:
			names = slices.Insert(names, r.IntN(len(names)+1), "c"+strconv.Itoa(r.IntN(20)))
		case 1:
			if len(rs) > 0 {
				rs[r.IntN(len(rs))] = nulls(r.IntN(14))
			}
		case 2:
			s.Columns[r.IntN(len(s.Columns))].Id = r.IntN(23)
		case 3:
			s.Columns[r.IntN(len(s.Columns))].Name = one(r, "", "x", "c1", "c2", "C1")
		}
		picksAsTold(t, s, rs, names...)
	}
}

// What To answers are rows of the schema: what is picked of them is what To answers of these columns alone.
func TestPicksOfWhatToAnswers(t *testing.T) {
	r := rolls(3)
	for range 3000 {
		s := rolledSchema(r)
		d := rolledFile(r, s)
		rs, e := toldTo(s, d)
		if e != api.OK {
			continue
		}
		fewer := changedSchema(s, func(s *api.Schema) {
			r.Shuffle(len(s.Columns), func(i int, j int) { s.Columns[i], s.Columns[j] = s.Columns[j], s.Columns[i] })
			s.Columns = s.Columns[:1+r.IntN(len(s.Columns))]
		})
		var names []string
		for _, c := range fewer.Columns {
			names = append(names, c.Name)
		}
		want, _ := toldPick(s, rs, names)
		goes(t, fewer, d, want, api.OK)
		picks(t, s, rs, names, want, api.OK)
	}
}
