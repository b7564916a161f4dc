package project_test

import (
	"slices"
	"strings"
	"sync"
	"testing"
	"unsafe"

	"boathouse/api"
	"boathouse/project"
)

// The rules of all calls

// world is what is handed in, in lists that have something ahead of them and in their spare room.
type world struct {
	columns [][]api.Column
	values  [][]api.Value
	rows    [][]api.Row
	names   [][]string
}

// ofSchema answers a schema that is s, its columns in such a list.
func (w *world) ofSchema(s api.Schema) api.Schema {
	s.Columns = w.ofColumns(s.Columns)
	return s
}

// ofColumns answers such a list of columns.
func (w *world) ofColumns(columns []api.Column) []api.Column {
	all := slices.Concat([]api.Column{{Id: -3, Name: "ahead"}}, columns, []api.Column{{Id: 5, Name: "behind", Kind: 8}, {}})
	w.columns = append(w.columns, all)
	return all[1 : 1+len(columns)]
}

// ofRows answers such a list of rows, each in such a list as well.
func (w *world) ofRows(rs []api.Row) []api.Row {
	all := rows(row(num(-1)))
	for _, r := range rs {
		vs := slices.Concat(values(api.Value{Kind: 9, I: 4}), r.V, values(num(5), null(), text("spare")))
		w.values = append(w.values, vs)
		all = append(all, api.Row{V: vs[1 : 1+len(r.V)]})
	}
	all = append(all, row(text("behind")), api.Row{})
	w.rows = append(w.rows, all)
	return all[1 : 1+len(rs)]
}

// ofFile answers a file that is d, all its lists such ones.
func (w *world) ofFile(d api.Data) api.Data {
	d.Columns = w.ofColumns(d.Columns)
	d.Values = w.ofRows(d.Values)
	return d
}

// ofNames answers such a list of names.
func (w *world) ofNames(names []string) []string {
	all := slices.Concat([]string{"ahead"}, names, []string{"behind", ""})
	w.names = append(w.names, all)
	return all[1 : 1+len(names)]
}

// copied answers all that a world holds in lists of its own.
func (w *world) copied() *world {
	var other world
	for _, columns := range w.columns {
		other.columns = append(other.columns, slices.Clone(columns))
	}
	for _, vs := range w.values {
		other.values = append(other.values, slices.Clone(vs))
	}
	for _, rs := range w.rows {
		var all []api.Row
		for _, r := range rs {
			all = append(all, api.Row{V: slices.Clone(r.V)})
		}
		other.rows = append(other.rows, all)
	}
	for _, names := range w.names {
		other.names = append(other.names, slices.Clone(names))
	}
	return &other
}

// same tells whether worlds are one.
func (w *world) same(o *world) bool {
	return slices.EqualFunc(w.columns, o.columns, slices.Equal[[]api.Column]) && slices.EqualFunc(w.values, o.values, slices.Equal[[]api.Value]) &&
		slices.EqualFunc(w.rows, o.rows, sameRows) && slices.EqualFunc(w.names, o.names, slices.Equal[[]string])
}

// R4: none of the lists is written to, nor what stands ahead of it or in its spare room.
func TestListsStayAsTheyWere(t *testing.T) {
	r := rolls(5)
	for range 3000 {
		var w world
		s := w.ofSchema(rolledSchema(r))
		d := w.ofFile(rolledFile(r, s))
		rs := w.ofRows(rolledRows(r, s, 12))
		names := w.ofNames(rolledNames(r, s))
		switch r.IntN(5) {
		case 0:
			d.Values[r.IntN(len(d.Values))] = row(text("\xff"))
		case 1:
			s.Columns[r.IntN(len(s.Columns))].Id = -1
		case 2:
			if len(rs) > 0 {
				rs[r.IntN(len(rs))].V = nil
			}
		}
		was := w.copied()
		project.To(s, d)
		project.Pick(s, rs, names)
		if !w.same(was) {
			t.Fatalf("something was written to: %s, %s, %s, %q", tellSchema(s), tellFile(d), tell(rs), names)
		}
	}
}

// texts are those of which it is asked whose memory they lie in.
func texts() []string {
	return []string{"a", "abc", "é日", "\x00\x01", strings.Repeat("x", 64)}
}

// R4: what becomes of a text's memory, a row, a name, a file or a schema later on is not seen in what was answered, nor are they written to.
func TestArgumentsAreNotKept(t *testing.T) {
	for _, s := range texts() {
		held := []byte(s)
		v := text(unsafe.String(&held[0], len(held)))
		columns := of(column(2, "b", api.KindInt), column(1, "a", api.KindText))
		d := file(list{1, api.KindText, values(v, null(), v)}, list{2, api.KindInt, values(num(1), num(2), num(3))})
		rs := rows(row(num(4), v), row(v, num(5)))
		names := []string{"a", "b", "a"}
		brought, _ := project.To(columns, d)
		picked, _ := project.Pick(columns, rs, names)
		if string(held) != s {
			t.Errorf("a text of %d bytes was written to", len(s))
		}
		for i := range held {
			held[i] ^= 0x15
		}
		d.Values[0].V[1], d.Values[1].V[0], d.Values[1], d.Columns[0] = text("b"), num(9), row(num(7)), api.Column{}
		rs[0].V[0], rs[1] = num(8), row(null())
		names[0], columns.Columns[0] = "b", column(5, "z", api.KindBool)
		wantTo := rows(row(num(1), text(s)), row(num(2), null()), row(num(3), text(s)))
		wantPick := rows(row(text(s), num(4), text(s)), row(num(5), text(s), num(5)))
		if !sameRows(brought, wantTo) || !sameRows(picked, wantPick) {
			t.Errorf("of %d bytes: %s; %s", len(s), tell(brought), tell(picked))
		}
	}
}

// span is where memory begins, and where it ends.
type span struct{ from, to uintptr }

// ofText answers a text's memory.
func ofText(s string) span {
	from := uintptr(unsafe.Pointer(unsafe.StringData(s)))
	return span{from, from + uintptr(len(s))}
}

// ofList answers a list's memory, its spare room too.
func ofList[T any](xs []T) span {
	var x T
	from := uintptr(unsafe.Pointer(unsafe.SliceData(xs)))
	return span{from, from + uintptr(cap(xs))*unsafe.Sizeof(x)}
}

// ofRows answers the memory of rows, of their lists and of their texts, thing by thing.
func ofRows(rs []api.Row) []span {
	all := []span{ofList(rs)}
	for _, r := range rs {
		all = append(all, ofList(r.V))
		for _, v := range r.V {
			all = append(all, ofText(v.S))
		}
	}
	return all
}

// meets tells whether two things have memory in common.
func meets(first span, second span) bool {
	return first.from < second.to && second.from < first.to
}

// R4: nothing that is answered lies in an argument's memory, in another answer's, nor elsewhere in its own.
func TestMemoryIsApart(t *testing.T) {
	for _, s := range texts() {
		v, other := text(strings.Clone(s)), text(strings.Clone(s))
		columns := of(column(1, "a", api.KindText), column(2, "b", api.KindText), column(3, "c", api.KindText))
		d := file(list{1, api.KindText, values(v, other, v)}, list{2, api.KindText, values(v, v, other)})
		rs := rows(row(v, other, null()), row(v, v, v))
		names := []string{"b", "a", "c", "b"}
		// What an argument has twice may well stand there once: the arguments are one thing.
		given := slices.Concat(ofRows(rs), ofRows(d.Values), []span{ofList(d.Columns), ofList(columns.Columns), ofList(names)})
		var made []span
		for range 2 {
			brought, _ := project.To(columns, d)
			picked, _ := project.Pick(columns, rs, names)
			again, _ := project.Pick(columns, brought, names)
			made = slices.Concat(made, ofRows(brought), ofRows(picked), ofRows(again))
		}
		for i, one := range made {
			for _, other := range slices.Concat(given, made[:i]) {
				if meets(one, other) {
					t.Errorf("of %d bytes: %v and %v meet", len(s), one, other)
				}
			}
		}
	}
}

// R4: what is written into one answer, its spare room too, is not seen in another, nor in another of its rows.
func TestAnswersAreApart(t *testing.T) {
	s := of(a(), b(), c())
	ask := func() [2][]api.Row {
		brought, _ := project.To(s, old())
		picked, _ := project.Pick(s, three(), []string{"a", "b", "a"})
		return [2][]api.Row{brought, picked}
	}
	first, second, want := ask(), ask(), ask()
	for i := range first {
		for at := range first[i] {
			vs := first[i][at].V
			for j := range cap(vs) {
				vs[:cap(vs)][j] = num(77)
			}
			if !sameRows(first[i][at+1:], want[i][at+1:]) {
				t.Errorf("%s", tell(first[i]))
			}
		}
		for at := range cap(first[i]) {
			first[i][:cap(first[i])][at] = row(num(78))
		}
		if !sameRows(second[i], want[i]) {
			t.Errorf("%s, not %s", tell(second[i]), tell(want[i]))
		}
	}
	goesAsTold(t, s, old())
	picksAsTold(t, s, three(), "a", "b", "a")
}

// R5: what was asked ahead plays no part, whoever asks at the same time, of the same things even.
func TestSameAnswersEachTime(t *testing.T) {
	type question struct {
		s     api.Schema
		d     api.Data
		rs    []api.Row
		names []string
	}
	r := rolls(6)
	var all []question
	for range 60 {
		s := rolledSchema(r)
		q := question{s, rolledFile(r, s), rolledRows(r, s, 8), rolledNames(r, s)}
		switch r.IntN(5) {
		case 0:
			q.d.Rows++
		case 1:
			q.names = append(q.names, "none")
		}
		all = append(all, q)
	}
	var group sync.WaitGroup
	for turn := range 8 {
		group.Go(func() {
			for i := range 10 * len(all) {
				q := all[(i+turn*7)%len(all)]
				goesAsTold(t, q.s, q.d)
				picksAsTold(t, q.s, q.rs, q.names...)
			}
		})
	}
	group.Wait()
}
