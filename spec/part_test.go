package spec_test

import (
	"slices"
	"strconv"
	"strings"
	"testing"
	"time"

	"boathouse/api"
)

// P13.2 Part: what is ordinary, each answer written by hand

func TestPartByHand(t *testing.T) {
	// Of wide: number 7, text 2, truth 4, number 29, text 3.
	full := row(num(27), text("éab"), truth(true), num(-27), text("123456789"))
	for _, c := range []struct {
		p    api.Spec
		r    api.Row
		want []api.Value
	}{
		{of(), full, nil},
		{of(), nulls(5), nil},
		{of(field(7, id, 0)), full, values(num(27))},
		{of(field(29, id, 0)), full, values(num(-27))},
		{of(field(4, id, 0)), full, values(truth(true))},
		{of(field(3, id, 0), field(2, id, 0)), full, values(text("123456789"), text("éab"))},
		{of(field(29, cut, 10), field(7, cut, 10), field(2, cut, 2), field(3, cut, 4)), full, values(num(-30), num(20), text("éa"), text("1234"))},
		{of(field(3, bucket, 10), field(4, bucket, 10), field(3, id, 0), field(3, cut, 1)), full, values(num(2), num(5), text("123456789"), text("1"))},
		{of(field(3, bucket, 10), field(4, bucket, 10), field(3, id, 0), field(3, cut, 1)), nulls(5), values(null(), null(), null(), null())},
		{of(field(7, cut, 10), field(2, cut, 1), field(7, bucket, 7), field(2, id, 0)), row(null(), text(""), null(), num(1), null()), values(null(), text(""), null(), text(""))},
		{of(field(7, cut, 10), field(4, id, 0), field(29, bucket, 7)), row(num(0), null(), truth(false), num(1), null()), values(num(0), truth(false), num(1))},
	} {
		parts(t, c.p, wide(), c.r, c.want, api.OK)
		splits(t, c.p, wide(), []api.Row{c.r}, []int{0}, api.OK)
	}
	parts(t, of(field(1, cut, 10)), ofKinds(api.KindInt), row(num(19)), values(num(10)), api.OK)
}

// eachRow calls a function with each row of so many places, one behind the other.
func eachRow(many int, each func(places []int)) {
	rows := [][]int{nil}
	for at := 0; at < len(rows); at++ {
		if len(rows[at]) == many {
			each(rows[at])
			continue
		}
		for place := range many {
			if !slices.Contains(rows[at], place) {
				rows = append(rows, append(slices.Clone(rows[at]), place))
			}
		}
	}
}

func TestFieldsInWhateverRow(t *testing.T) {
	fields := []api.Field{field(29, cut, 10), field(2, id, 0), field(4, bucket, 7), field(2, cut, 3)}
	made := values(num(-30), text("abcd"), num(2), text("abc"))
	r := row(null(), text("abcd"), truth(true), num(-21), text("other"))
	for many := range 5 {
		eachRow(many, func(places []int) {
			var p api.Spec
			var want []api.Value
			for _, place := range places {
				p.Fields, want = append(p.Fields, fields[place]), append(want, made[place])
			}
			parts(t, p, wide(), r, want, api.OK)
			splits(t, p, wide(), []api.Row{r, nulls(5), r}, [][]int{{0, 0, 0}, {0, 1, 0}}[min(many, 1)], api.OK)
		})
	}
}

// A field goes by its column's Id, wherever the column stands.
func TestColumnsInWhateverRow(t *testing.T) {
	columns := ofKinds(api.KindInt, api.KindInt, api.KindText, api.KindInt).Columns
	vs := values(num(10), num(20), text("c"), num(40))
	p := of(field(4, id, 0), field(3, id, 0), field(1, id, 0), field(2, id, 0))
	eachRow(4, func(places []int) {
		s, r := api.Schema{Next: 5}, api.Row{}
		for _, place := range places {
			s.Columns, r.V = append(s.Columns, columns[place]), append(r.V, vs[place])
		}
		parts(t, p, s, r, values(num(40), text("c"), num(10), num(20)), api.OK)
	})
}

func TestEachColumnOfAFullSchema(t *testing.T) {
	s := ofKinds(slices.Repeat(kinds(), 4)...)
	var r api.Row
	for i, c := range s.Columns {
		r.V = append(r.V, api.Value{Kind: c.Kind, I: i, B: i%2 == 0, S: strconv.Itoa(i)})
	}
	for i, c := range s.Columns {
		parts(t, of(field(c.Id, id, 0)), s, r, values(bare(r.V[i])), api.OK)
	}
}

// P13.2: rows that are none

func TestRowsOfAnotherLength(t *testing.T) {
	for many := 1; many <= 12; many++ {
		s := ofKinds(slices.Repeat([]int{api.KindInt}, many)...)
		for _, p := range []api.Spec{of(), of(field(1, id, 0)), of(field(many, cut, 3))} {
			parts(t, p, s, row(slices.Repeat(values(num(6)), many)...), slices.Repeat(values(num(6)), len(p.Fields)), api.OK)
			for length := range 15 {
				if length != many {
					refused(t, p, s, nulls(length))
					refused(t, p, s, row(slices.Repeat(values(num(6)), length)...))
				}
			}
			refused(t, p, s, nulls(4096))
		}
	}
}

// A value of another kind at each place, whether a field has its column or not.
func TestKindsOfValues(t *testing.T) {
	specs := []api.Spec{of(), of(field(7, id, 0)), of(field(3, bucket, 5)), of(field(2, cut, 1), field(4, id, 0), field(29, cut, 2), field(7, bucket, 3))}
	for _, p := range specs {
		for at, c := range wide().Columns {
			for _, v := range some() {
				r := nulls(5)
				r.V[at] = v
				if v.Kind != api.KindNull && v.Kind != c.Kind {
					refused(t, p, wide(), r)
					// Beside values of their kinds as beside nulls.
					all := row(num(1), text("a"), truth(true), num(2), text("b"))
					all.V[at] = v
					refused(t, p, wide(), all)
					continue
				}
				want, _ := parted(p, wide(), r)
				parts(t, p, wide(), r, want, api.OK)
			}
		}
	}
}

// A kind that is none is null, of a column of any kind, whatever the fields hold.
func TestValuesOfNoKind(t *testing.T) {
	p := of(field(7, id, 0), field(2, cut, 1), field(4, bucket, 3), field(29, cut, 2))
	for _, kind := range noKinds() {
		for _, v := range values(api.Value{Kind: kind}, api.Value{Kind: kind, I: 5, B: true, S: "x"}) {
			r := row(v, v, v, v, v)
			parts(t, p, wide(), r, values(null(), null(), null(), null()), api.OK)
			splits(t, p, wide(), []api.Row{r, nulls(5), r}, []int{0, 0, 0}, api.OK)
			for at := range 5 {
				r := nulls(5)
				r.V[at] = v
				parts(t, p, wide(), r, values(null(), null(), null(), null()), api.OK)
			}
		}
	}
}

// Fields that a kind doesn't name play no part, in what is answered neither.
func TestWhatCounts(t *testing.T) {
	p := of(field(7, id, 0), field(2, id, 0), field(4, id, 0), field(2, cut, 1))
	one := row(num(3), text("ab"), truth(false), null(), null())
	want := values(num(3), text("ab"), truth(false), text("a"))
	for _, v := range clothed(num(3)) {
		for _, w := range clothed(text("ab")) {
			for _, x := range clothed(truth(false)) {
				for _, y := range clothed(null()) {
					other := row(v, w, x, y, y)
					parts(t, p, wide(), other, want, api.OK)
					splits(t, p, wide(), []api.Row{one, other, nulls(5), other}, []int{0, 0, 1, 0}, api.OK)
				}
			}
		}
	}
}

// P13.2 Split: what is ordinary, each answer written by hand

func TestSplitByHand(t *testing.T) {
	s := ofKinds(api.KindInt, api.KindText)
	r := func(x int, word string) api.Row { return row(num(x), text(word)) }
	tens, words := of(field(1, cut, 10)), of(field(2, cut, 1), field(1, cut, 10))
	for _, c := range []struct {
		p    api.Spec
		rs   []api.Row
		want []int
	}{
		{tens, nil, nil}, {tens, []api.Row{}, nil}, {of(), nil, nil},
		{tens, []api.Row{r(1, "")}, []int{0}},
		{tens, []api.Row{r(1, "a"), r(2, "b"), r(9, "c"), r(0, "")}, []int{0, 0, 0, 0}},
		{tens, []api.Row{r(1, ""), r(11, ""), r(21, ""), r(-1, "")}, []int{0, 1, 2, 3}},
		{tens, []api.Row{r(31, ""), r(1, ""), r(21, ""), r(39, ""), r(5, ""), r(11, ""), r(25, "")}, []int{0, 1, 2, 0, 1, 3, 2}},
		{of(), []api.Row{r(1, "a"), r(99, "b"), nulls(2)}, []int{0, 0, 0}},
		{words, []api.Row{r(1, "ab"), r(11, "ac"), r(2, "b"), r(19, "a"), r(3, "ax"), r(5, "bb")}, []int{0, 1, 2, 1, 0, 2}},
		// Null is neither nought nor a text of no byte.
		{of(field(1, id, 0)), []api.Row{r(0, ""), nulls(2), r(0, "")}, []int{0, 1, 0}},
		{of(field(2, id, 0)), []api.Row{nulls(2), r(0, ""), r(7, ""), row(num(7), null())}, []int{0, 1, 1, 0}},
		{words, []api.Row{nulls(2), row(num(0), null()), row(null(), text("")), r(0, ""), nulls(2), r(9, "")}, []int{0, 1, 2, 3, 0, 3}},
		// Bytes that are no runes are told apart as they are.
		{of(field(2, cut, 1)), []api.Row{r(0, "\xff"), r(0, "\xfe"), r(0, "\ufffd"), r(0, "\xffa"), r(0, "\xef"), r(0, "\ufffda")}, []int{0, 1, 2, 0, 3, 2}},
	} {
		splits(t, c.p, s, c.rs, c.want, api.OK)
	}
}

// A Part is one by each field's value, at its own place.
func TestEachFieldTellsPartsApart(t *testing.T) {
	s := ofKinds(api.KindInt, api.KindInt, api.KindInt, api.KindInt, api.KindInt)
	for many := range 5 {
		p := of(slices.Clone([]api.Field{field(1, id, 0), field(2, id, 0), field(3, id, 0), field(4, id, 0)}[:many])...)
		var rs []api.Row
		var want []int
		for i := range 32 {
			rs = append(rs, row(num(i&1), num(i>>1&1), num(i>>2&1), num(i>>3&1), num(i>>4)))
			want = append(want, i&(1<<many-1))
		}
		splits(t, p, s, rs, want, api.OK)
	}
	// The same values, handed out among the fields otherwise.
	p := of(field(1, id, 0), field(2, id, 0), field(3, id, 0))
	var rs []api.Row
	var want []int
	eachRow(3, func(places []int) {
		rs = append(rs, row(num(places[0]), num(places[1]), num(places[2]), null(), null()))
		want = append(want, len(want))
	})
	splits(t, p, s, rs, want, api.OK)
	// Texts that are one where they are put together, and values that look alike.
	s = ofKinds(api.KindText, api.KindText, api.KindInt)
	p = of(field(1, id, 0), field(2, id, 0), field(3, id, 0))
	rs = nil
	for _, all := range [][3]api.Value{{text("ab"), text("c")}, {text("a"), text("bc")}, {text("abc"), text("")}, {text("abc")}, {null(), text("abc")}, {text(""), text("abc")}, {text("1"), text(""), num(2)}, {text("12"), text("")}, {text(""), text("1"), num(2)}, {text(""), text("12")}, {text("a\x00"), text("b")}, {text("a"), text("\x00b")}} {
		rs = append(rs, row(all[:]...))
	}
	splits(t, p, s, slices.Concat(rs, rs), slices.Concat(rising(len(rs)), rising(len(rs))), api.OK)
}

// rising answers the numbers below another one.
func rising(many int) []int {
	var xs []int
	for x := range many {
		xs = append(xs, x)
	}
	return xs
}

// A row that is none makes all of the answer none, wherever it stands.
func TestARowThatIsNoneAmongOthers(t *testing.T) {
	s := ofKinds(api.KindInt, api.KindText)
	p := of(field(1, cut, 10))
	for _, many := range []int{1, 2, 3, 10, 64, 65} {
		var rs []api.Row
		for i := range many {
			rs = append(rs, row(num(i*7), text("a")))
		}
		want, e := split(p, s, rs)
		splits(t, p, s, rs, want, e)
		for at := range many {
			for _, r := range []api.Row{{}, nulls(1), nulls(3), row(text("a"), text("a")), row(num(1), num(1)), row(num(1), truth(true))} {
				with := slices.Clone(rs)
				with[at] = r
				splits(t, p, s, with, nil, api.ErrSpecForm)
				splits(t, of(), s, with, nil, api.ErrSpecForm)
			}
		}
	}
}

// As many rows as a table has, and more, end soon: all unlike, by a number or only at a long text's end.
func TestManyRows(t *testing.T) {
	began := time.Now()
	s := ofKinds(api.KindInt, api.KindText, api.KindInt, api.KindText)
	p := of(field(1, id, 0), field(2, id, 0), field(3, bucket, 7), field(4, cut, 3))
	long := strings.Repeat("x", 2000)
	for _, many := range []int{api.MaxTable, 100000} {
		rs := make([]api.Row, many)
		same := make([]api.Row, many)
		for i := range rs {
			rs[i] = row(num(i), text("a"), num(3), null())
			same[i] = row(num(4), text("a"), num(3), null())
		}
		splits(t, p, s, rs, rising(many), api.OK)
		splits(t, p, s, same, make([]int, many), api.OK)
		splits(t, p, s, append(slices.Clone(rs), rs...), append(rising(many), rising(many)...), api.OK)
		splits(t, p, s, append(rs, nulls(3)), nil, api.ErrSpecForm)
	}
	var rs []api.Row
	for i := range api.MaxTable {
		rs = append(rs, row(num(1), text(long+strconv.Itoa(i)), null(), text(long)))
	}
	splits(t, p, s, rs, rising(api.MaxTable), api.OK)
	if took := time.Since(began); took > 20*time.Second {
		t.Errorf("took %s", took)
	}
}

// R6: whatever else is wrong, the error is one.

func TestErrors(t *testing.T) {
	bad := []api.Spec{{Id: -1}, {Id: top + 1}, of(field(7, id, 0), field(7, id, 0)), of(field(1, id, 0)), of(field(4, cut, 2)), of(field(7, 3, 2)), of(make([]api.Field, 5)...)}
	rows := []api.Row{{}, nulls(4), nulls(5), nulls(6), row(text("a"), null(), null(), null(), null())}
	for _, p := range append(bad, of(), four(4)) {
		for _, s := range []api.Schema{wide(), {}, {Columns: make([]api.Column, 5)}, ofKinds()} {
			for i, r := range rows {
				if i != 2 || !mayBe(p, s) {
					parts(t, p, s, r, nil, api.ErrSpecForm)
					splits(t, p, s, []api.Row{r}, nil, api.ErrSpecForm)
					splits(t, p, s, []api.Row{nulls(5), r}, nil, api.ErrSpecForm)
				}
			}
		}
	}
}

// P13.2: all rows of few values, and rolled ones

func TestAllShortSplits(t *testing.T) {
	s := ofKinds(api.KindInt, api.KindText)
	few := []api.Row{row(num(1), text("a")), row(num(2), text("ab")), row(num(1), text("b")), nulls(2), row(text("a"), num(1))}
	for _, p := range []api.Spec{of(), of(field(1, id, 0)), of(field(1, cut, 2)), of(field(2, cut, 1)), of(field(2, bucket, 2), field(1, id, 0)), of(field(3, id, 0))} {
		lists := [][]api.Row{nil}
		for at := 0; at < len(lists); at++ {
			want, e := split(p, s, lists[at])
			splits(t, p, s, lists[at], want, e)
			if len(lists[at]) == 5 {
				continue
			}
			for _, r := range few {
				lists = append(lists, append(slices.Clone(lists[at]), r))
			}
		}
	}
}

func TestRolledRows(t *testing.T) {
	r := rolls(4)
	for range 2000 {
		s := rolledSchema(r)
		p := rolledSpec(r, s)
		rs := rolledRows(r, s, 20)
		judged(t, p, s, rs)
		if len(rs) == 0 {
			continue
		}
		// One part is spoilt, or not.
		at, spoilt := r.IntN(len(rs)), slices.Clone(rs)
		vs := slices.Clone(rs[at].V)
		switch r.IntN(4) {
		case 0:
			vs = vs[1:]
		case 1:
			vs = append(vs, null())
		case 2:
			vs[r.IntN(len(vs))] = rolledValue(r, one(r, kinds()...))
		case 3:
			p.Id = one(r, -1, 0, top, top+1)
		}
		spoilt[at].V = vs
		judged(t, p, s, spoilt)
	}
}
