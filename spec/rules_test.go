package spec_test

import (
	"slices"
	"strings"
	"sync"
	"testing"
	"unsafe"

	"boathouse/api"
	"boathouse/spec"
)

// The rules of all calls

// world is a spec, a schema and rows, in lists that have something ahead of them and in their spare room.
type world struct {
	fields  []api.Field
	columns []api.Column
	values  [][]api.Value
	rows    []api.Row
}

// roomy answers such lists of a spec, a schema and rows, and these in them.
func roomy(p api.Spec, s api.Schema, rs []api.Row) (world, api.Spec, api.Schema, []api.Row) {
	var w world
	w.fields = slices.Concat([]api.Field{field(-1, 9, -2)}, p.Fields, []api.Field{field(7, id, 0), {}, field(2, 8, 1)})
	w.columns = slices.Concat([]api.Column{{Id: -3, Name: "ahead"}}, s.Columns, []api.Column{{Id: 5, Name: "behind", Kind: 8}, {}})
	w.rows = []api.Row{row(num(-1))}
	for _, r := range rs {
		all := slices.Concat(values(api.Value{Kind: 9, I: 4}), r.V, values(num(5), null(), text("spare")))
		w.values = append(w.values, all)
		w.rows = append(w.rows, api.Row{V: all[1 : 1+len(r.V)]})
	}
	w.rows = append(w.rows, row(text("behind")), api.Row{})
	p.Fields = w.fields[1 : 1+len(p.Fields)]
	s.Columns = w.columns[1 : 1+len(s.Columns)]
	return w, p, s, w.rows[1 : 1+len(rs)]
}

// copied answers all that a world holds in lists of its own.
func (w world) copied() world {
	other := world{fields: slices.Clone(w.fields), columns: slices.Clone(w.columns)}
	for _, vs := range w.values {
		other.values = append(other.values, slices.Clone(vs))
	}
	for _, r := range w.rows {
		other.rows = append(other.rows, api.Row{V: slices.Clone(r.V)})
	}
	return other
}

// sameRows tells whether rows hold the same values.
func sameRows(a []api.Row, b []api.Row) bool {
	return slices.EqualFunc(a, b, func(a api.Row, b api.Row) bool { return slices.Equal(a.V, b.V) })
}

// same tells whether worlds are one.
func (w world) same(o world) bool {
	return slices.Equal(w.fields, o.fields) && slices.Equal(w.columns, o.columns) && sameRows(w.rows, o.rows) &&
		slices.EqualFunc(w.values, o.values, func(a []api.Value, b []api.Value) bool { return slices.Equal(a, b) })
}

// R4: none of the lists is written to, nor what stands ahead of it or in its spare room.
func TestListsStayAsTheyWere(t *testing.T) {
	r := rolls(5)
	for range 2000 {
		s := rolledSchema(r)
		p := rolledSpec(r, s)
		w, p, s, rs := roomy(p, s, rolledRows(r, s, 12))
		if r.IntN(4) == 0 {
			p.Id = -1
		}
		if r.IntN(4) == 0 && len(rs) > 0 {
			rs[r.IntN(len(rs))].V[0] = one(r, num(1), text("a"), truth(true))
		}
		was := w.copied()
		spec.May(p, s)
		spec.Split(p, s, rs)
		for _, r := range rs {
			spec.Part(p, s, r)
			for _, f := range p.Fields {
				spec.Apply(f, r.V[0])
			}
		}
		if !w.same(was) {
			t.Fatalf("%s was written to", tellSpec(p, s))
		}
	}
}

// R4: what becomes of a text's memory, a row, a spec or a schema later on is not seen in what was answered, nor are they written to.
func TestArgumentsAreNotKept(t *testing.T) {
	for _, s := range []string{"a", "abc", "é日", "\xff\x00", strings.Repeat("x", api.MaxValue), strings.Repeat("y", api.MaxText)} {
		held := []byte(s)
		v := text(unsafe.String(&held[0], len(held)))
		columns := ofKinds(api.KindText, api.KindInt)
		p := of(field(1, id, 0), field(1, cut, 1), field(2, id, 0), field(1, bucket, 1024))
		r := row(v, num(5))
		whole, _ := spec.Apply(field(1, id, 0), v)
		begun, _ := spec.Apply(field(1, cut, 1), v)
		all, _ := spec.Apply(field(1, cut, 1024), v)
		part, _ := spec.Part(p, columns, r)
		rs := []api.Row{r, row(text(s), num(5)), nulls(2)}
		at, _ := spec.Split(p, columns, rs)
		if string(held) != s {
			t.Errorf("a text of %d bytes was written to", len(s))
		}
		for i := range held {
			held[i] ^= 0x55
		}
		r.V[0], r.V[1], p.Fields[0], columns.Columns[0], rs[2] = num(1), text("b"), field(9, 9, 9), api.Column{}, row(v)
		first := text(shortened(s, 1))
		sum, _ := applied(field(1, bucket, 1024), text(s))
		if whole != text(s) || begun != first || all != text(shortened(s, 1024)) || !slices.Equal(part, values(text(s), first, num(5), sum)) || !slices.Equal(at, []int{0, 0, 1}) {
			t.Errorf("of %d bytes: %s, %s, %s, %s, %v", len(s), tellOne(whole), tellOne(begun), tellOne(all), tell(part), at)
		}
	}
}

// span is where memory begins, and where it ends.
type span struct{ from, to uintptr }

// ofText answers a text's memory.
func ofText(s string) span {
	from := uintptr(unsafe.Pointer(unsafe.StringData(s)))
	return span{from, from + uintptr(len(s))}
}

// ofList answers a list's memory, its spare room too.
func ofList[T any](xs []T) span {
	var x T
	from := uintptr(unsafe.Pointer(unsafe.SliceData(xs)))
	return span{from, from + uintptr(cap(xs))*unsafe.Sizeof(x)}
}

// ofValues answers the memory of values and of their texts.
func ofValues(vs []api.Value) []span {
	all := []span{ofList(vs)}
	for _, v := range vs {
		all = append(all, ofText(v.S))
	}
	return all
}

// apart asks that no memory of one thing meets that of another.
func apart(t *testing.T, things ...[]span) {
	t.Helper()
	for i, thing := range things {
		for _, first := range thing {
			for _, second := range slices.Concat(things[:i]...) {
				if first.from < second.to && second.from < first.to {
					t.Errorf("%v and %v meet", first, second)
				}
			}
		}
	}
}

// R4: nothing that is answered lies in an argument's memory or in another answer's.
func TestMemoryIsApart(t *testing.T) {
	for _, s := range []string{"a", "abc", "é日", "\xff\x00", strings.Repeat("x", api.MaxValue), strings.Repeat("y", api.MaxText)} {
		v, other := text(strings.Clone(s)), text(strings.Clone(s))
		columns := ofKinds(api.KindText, api.KindText)
		p := of(field(1, id, 0), field(1, cut, 1), field(2, cut, 1024), field(2, id, 0))
		r := row(v, other)
		rs := []api.Row{r, nulls(2), r}
		things := [][]span{ofValues(r.V), {ofList(rs)}, {ofList(p.Fields)}, {ofList(columns.Columns)}}
		for range 2 {
			for _, f := range p.Fields {
				made, _ := spec.Apply(f, v)
				things = append(things, []span{ofText(made.S)})
			}
			for many := 1; many <= 4; many++ {
				part, _ := spec.Part(changed(p, func(p *api.Spec) { p.Fields = p.Fields[:many] }), columns, r)
				things = append(things, ofValues(part))
			}
			at, _ := spec.Split(p, columns, rs)
			things = append(things, []span{ofList(at)})
		}
		apart(t, things...)
	}
}

// R4: what is written into one answer, its spare room too, is not seen in another.
func TestAnswersAreApart(t *testing.T) {
	s := ofKinds(api.KindText, api.KindInt)
	r := row(text("abc"), num(5))
	rs := []api.Row{r, nulls(2), r, r}
	for _, p := range []api.Spec{of(), of(field(1, id, 0)), of(field(2, id, 0), field(1, cut, 2), field(1, id, 0))} {
		want, _ := parted(p, s, r)
		wantAt, _ := split(p, s, rs)
		first, _ := spec.Part(p, s, r)
		second, _ := spec.Part(p, s, r)
		firstAt, _ := spec.Split(p, s, rs)
		secondAt, _ := spec.Split(p, s, rs)
		for i := range cap(first) {
			first[:cap(first)][i] = num(77)
		}
		for i := range cap(firstAt) {
			firstAt[:cap(firstAt)][i] = 77
		}
		if !slices.Equal(second, want) || !slices.Equal(secondAt, wantAt) {
			t.Errorf("%s, %v", tell(second), secondAt)
		}
		parts(t, p, s, r, want, api.OK)
		splits(t, p, s, rs, wantAt, api.OK)
	}
}

// R5: what was asked ahead plays no part, whoever asks at the same time, of the same things even.
func TestSameAnswersEachTime(t *testing.T) {
	type question struct {
		p  api.Spec
		s  api.Schema
		rs []api.Row
	}
	r := rolls(6)
	var all []question
	for range 40 {
		s := rolledSchema(r)
		q := question{rolledSpec(r, s), s, rolledRows(r, s, 8)}
		if r.IntN(4) == 0 {
			q.p.Id = -1
		}
		all = append(all, q)
	}
	var group sync.WaitGroup
	for turn := range 8 {
		group.Go(func() {
			for i := range 5 * len(all) {
				q := all[(i+turn*5)%len(all)]
				judged(t, q.p, q.s, q.rs)
			}
		})
	}
	group.Wait()
}
