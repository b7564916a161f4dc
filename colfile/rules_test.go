package colfile_test

import (
	"slices"
	"strings"
	"sync"
	"testing"
	"unsafe"

	"boathouse/api"
	"boathouse/colfile"
)

// The rules of all calls

// roomy answers a file whose lists each have something ahead of them and in their spare room, and all of these lists, whole.
func roomy(d api.Data) (api.Data, []api.Column, []api.Row, [][]api.Value) {
	spare := api.Value{Kind: 9, I: 3, B: true, S: "spare"}
	var lists [][]api.Value
	rows := []api.Row{{V: values(spare)}}
	for _, vs := range d.Values {
		whole := slices.Concat(values(spare, num(-7)), vs.V, values(spare, num(1), spare))
		lists = append(lists, whole)
		rows = append(rows, api.Row{V: whole[2 : 2+len(vs.V)]})
	}
	rows = append(rows, api.Row{V: values(spare)}, api.Row{})
	columns := slices.Concat([]api.Column{{Id: -3, Name: "ahead", Kind: 7}}, d.Columns, []api.Column{{Id: 4, Name: "behind", Kind: 8}, {}})
	d.Columns = columns[1 : 1+len(d.Columns)]
	d.Values = rows[1 : 1+len(d.Values)]
	return d, columns, rows, lists
}

// R4: neither the lists nor what stands ahead of them or in their spare room is written to.
func TestFilesStayAsTheyWere(t *testing.T) {
	ask := func(d api.Data) {
		t.Helper()
		given, columns, rows, lists := roomy(d)
		wasColumns, wasRows := slices.Clone(columns), slices.Clone(rows)
		var wasLists [][]api.Value
		for _, whole := range lists {
			wasLists = append(wasLists, slices.Clone(whole))
		}
		colfile.Put(given)
		colfile.May(given)
		if !slices.Equal(columns, wasColumns) || !slices.EqualFunc(lists, wasLists, slices.Equal) {
			t.Errorf("%s was written to", tell(d))
		}
		for i := range rows {
			if unsafe.SliceData(rows[i].V) != unsafe.SliceData(wasRows[i].V) || len(rows[i].V) != len(wasRows[i].V) || cap(rows[i].V) != cap(wasRows[i].V) {
				t.Errorf("%s: list %d is another", tell(d), i)
			}
		}
		if i := slices.IndexFunc(rows[len(rows)-2].V, func(v api.Value) bool { return v.S != "spare" }); i >= 0 {
			t.Errorf("%s: a list behind was written to", tell(d))
		}
	}
	for _, k := range byHand() {
		ask(k.d)
		ask(changed(k.d, func(d *api.Data) { d.Rows++ }))
		ask(changed(k.d, func(d *api.Data) { d.Columns[0].Kind = 9 }))
		ask(changed(k.d, func(d *api.Data) { d.Values = d.Values[1:] }))
	}
	r := rolls(3)
	for range 300 {
		ask(rolled(r, 20))
	}
	ask(file(list{1, api.KindText, unlike(1200)}))
}

// R4: what becomes of a file or of a text's memory later on is not seen in what was answered, nor is it written to.
func TestArgumentsAreNotKept(t *testing.T) {
	for _, s := range []string{"a", "abc", "é日", strings.Repeat("x", api.MaxValue)} {
		held := []byte(s)
		v := text(unsafe.String(&held[0], len(held)))
		for _, vs := range [][]api.Value{values(v), values(v, null(), text("b")), times(30, v), slices.Concat(times(30, v), times(30, text("b")))} {
			d := file(list{3, api.KindText, vs}, list{4, api.KindText, vs})
			body := written(d)
			want := cloned(d)
			for _, list := range want.Values {
				for i := range list.V {
					list.V[i].S = strings.Clone(list.V[i].S)
				}
			}
			put, _ := colfile.Put(d)
			bytes := []byte(put)
			got, _ := colfile.Get(unsafe.String(&bytes[0], len(bytes)))
			stats, _ := colfile.Stats(unsafe.String(&bytes[0], len(bytes)))
			if string(held) != s || string(bytes) != sealed(body) {
				t.Errorf("%s was written to", short(s))
			}
			for i := range held {
				held[i] ^= 0x55
			}
			for i := range vs {
				vs[i] = num(9)
			}
			d.Columns[0], d.Values[0] = api.Column{Id: 9, Name: "x"}, api.Row{}
			for i := range bytes {
				bytes[i] ^= 0x55
			}
			if put != sealed(body) || !same(got, want) || !slices.Equal(stats, told(want)) {
				t.Errorf("%s became %s, %s, %s", short(body), short(put), tell(got), tellStats(stats))
			}
			copy(held, s)
		}
	}
}

// span is where memory begins, and where it ends.
type span struct{ from, to uintptr }

// spanOf answers the memory of so many things of a size that begins at a place.
func spanOf(at unsafe.Pointer, many int, size uintptr) span {
	return span{uintptr(at), uintptr(at) + uintptr(many)*size}
}

// ofText answers a text's memory.
func ofText(s string) span { return spanOf(unsafe.Pointer(unsafe.StringData(s)), len(s), 1) }

// ofTexts answers the memory of values' texts.
func ofTexts(vs ...api.Value) []span {
	var all []span
	for _, v := range vs {
		all = append(all, ofText(v.S))
	}
	return all
}

// ofLists answers the memory of a file's lists, with their spare room, each by its own.
func ofLists(d api.Data) []span {
	all := []span{
		spanOf(unsafe.Pointer(unsafe.SliceData(d.Columns)), cap(d.Columns), unsafe.Sizeof(api.Column{})),
		spanOf(unsafe.Pointer(unsafe.SliceData(d.Values)), cap(d.Values), unsafe.Sizeof(api.Row{})),
	}
	for _, vs := range d.Values {
		all = append(all, spanOf(unsafe.Pointer(unsafe.SliceData(vs.V)), cap(vs.V), unsafe.Sizeof(api.Value{})))
	}
	return all
}

// ofFile answers all of a file's memory.
func ofFile(d api.Data) []span {
	all := ofLists(d)
	for _, vs := range d.Values {
		all = append(all, ofTexts(vs.V...)...)
	}
	return all
}

// ofStats answers all of the memory of statistics.
func ofStats(all []api.Stat) []span {
	spans := []span{spanOf(unsafe.Pointer(unsafe.SliceData(all)), cap(all), unsafe.Sizeof(api.Stat{}))}
	for _, s := range all {
		spans = append(spans, ofTexts(s.Min, s.Max)...)
	}
	return spans
}

// apart asks that no memory of one thing meets that of another.
func apart(t *testing.T, things ...[]span) {
	t.Helper()
	for i, thing := range things {
		for _, first := range thing {
			for _, second := range slices.Concat(things[:i]...) {
				if first.from < second.to && second.from < first.to {
					t.Errorf("%v and %v meet", first, second)
				}
			}
		}
	}
}

// R4: nothing that is answered lies in an argument's memory or in another answer's, and no two lists of one answer share any.
func TestMemoryIsApart(t *testing.T) {
	ds := []api.Data{ofColumns(api.MaxColumns, 5), ofRows(40), mixed()}
	for _, k := range byHand() {
		ds = append(ds, k.d)
	}
	for _, d := range ds {
		put, _ := colfile.Put(d)
		again, _ := colfile.Put(d)
		got, _ := colfile.Get(put)
		other, _ := colfile.Get(put)
		stats, _ := colfile.Stats(put)
		more, _ := colfile.Stats(put)
		apart(t, ofFile(d), []span{ofText(put)}, []span{ofText(again)}, ofFile(got), ofFile(other), ofStats(stats), ofStats(more))
		for i, list := range ofLists(got) {
			apart(t, []span{list}, slices.Delete(ofLists(got), i, i+1))
		}
	}
}

// R4: what is written into one answer, its spare room too, is not seen in another.
func TestAnswersAreApart(t *testing.T) {
	for _, k := range byHand() {
		first, _ := colfile.Get(sealed(k.body))
		second, _ := colfile.Get(sealed(k.body))
		stats, _ := colfile.Stats(sealed(k.body))
		more, _ := colfile.Stats(sealed(k.body))
		for _, vs := range first.Values {
			for i := range cap(vs.V) {
				vs.V[:cap(vs.V)][i] = text("other")
			}
		}
		for i := range cap(first.Columns) {
			first.Columns[:cap(first.Columns)][i] = api.Column{Id: 1, Name: "other"}
		}
		for i := range cap(first.Values) {
			first.Values[:cap(first.Values)][i] = api.Row{}
		}
		for i := range cap(stats) {
			stats[:cap(stats)][i] = api.Stat{Col: -1}
		}
		if !same(second, k.d) || !slices.Equal(more, told(k.d)) {
			t.Errorf("became %s, %s", tell(second), tellStats(more))
		}
		puts(t, k.d, k.body)
		gets(t, k.body, k.d)
	}
}

// R5: what was asked ahead plays no part, whoever asks at the same time, of the same files even.
func TestSameAnswersEachTime(t *testing.T) {
	var group sync.WaitGroup
	ks := byHand()
	for turn := range 8 {
		group.Go(func() {
			for i := range 10 * len(ks) {
				k := ks[(i+turn*5)%len(ks)]
				puts(t, k.d, k.body)
				gets(t, k.body, k.d)
				putRefuses(t, changed(k.d, func(d *api.Data) { d.Rows = -1 }))
				misformed(t, "a byte behind", k.body+"\x00")
				getRefuses(t, "no sum", k.body, api.ErrFileSum)
			}
		})
	}
	group.Wait()
}
