package schema_test

import (
	"slices"
	"strconv"
	"strings"
	"sync"
	"testing"
	"unsafe"

	"boathouse/api"
	"boathouse/schema"
)

// The rules of all calls

// roomy answers a schema whose columns have something ahead of them and in their spare room, and all of that list.
func roomy(s api.Schema) (api.Schema, []api.Column) {
	whole := slices.Concat([]api.Column{column(-3, "ahead", 7)}, s.Columns, []api.Column{column(4, "behind", 8), {}, column(5, "last", 9)})
	s.Columns = whole[1 : 1+len(s.Columns)]
	return s, whole
}

// some are schemas of several sorts, those that may not be among them.
func some() []api.Schema {
	all := []api.Schema{three(), {}, ofColumns(13), of(0, 2, column(1, "A", 1))}
	for _, many := range []int{1, 2, 3, 5, 11, 12} {
		all = append(all, ofColumns(many), changed(ofColumns(many), func(s *api.Schema) { s.Id = top }), changed(ofColumns(many), func(s *api.Schema) { s.Columns[many-1].Kind = 9 }))
	}
	return all
}

// R4: neither the columns nor what stands ahead of them or in their spare room is written to.
func TestSchemasStayAsTheyWere(t *testing.T) {
	for _, s := range some() {
		given, whole := roomy(s)
		was := slices.Clone(whole)
		schema.May(given)
		for _, name := range []string{"a", "c", "c0", "c1", "c11", "x", "", "A"} {
			schema.Find(given, name)
			schema.Add(given, name, api.KindInt)
			schema.Add(given, name, 9)
			schema.Drop(given, name)
			for _, to := range []string{"x", "c0", name, ""} {
				schema.Rename(given, name, to)
			}
		}
		if !slices.Equal(whole, was) {
			t.Errorf("%s became %s", tell(of(0, 0, was...)), tell(of(0, 0, whole...)))
		}
	}
}

// R4: New writes into neither list.
func TestListsStayAsTheyWere(t *testing.T) {
	for _, s := range some() {
		names, kinds := parted(s)
		allNames := slices.Concat([]string{"ahead"}, names, []string{"behind", "", "last"})
		allKinds := slices.Concat([]int{7}, kinds, []int{8, 0, 9})
		wasNames, wasKinds := slices.Clone(allNames), slices.Clone(allKinds)
		schema.New(allNames[1:1+len(names)], allKinds[1:1+len(kinds)])
		schema.New(allNames[1:1+len(names)], allKinds[1:1])
		if !slices.Equal(allNames, wasNames) || !slices.Equal(allKinds, wasKinds) {
			t.Errorf("%v, %v became %v, %v", wasNames, wasKinds, allNames, allKinds)
		}
	}
}

// held is a text and the bytes that it lies in.
type held struct {
	bytes []byte
	s     string
}

// hold answers a text in memory that the test can write to.
func hold(s string) held {
	bytes := []byte(s)
	return held{bytes, unsafe.String(&bytes[0], len(bytes))}
}

// R4: what becomes of names, kinds or columns later on is not seen in what was answered, nor are they written to.
func TestArgumentsAreNotKept(t *testing.T) {
	a, b, x := hold("a"), hold(strings.Repeat("b", 16)), hold("x_x")
	names, kinds := []string{a.s, b.s}, []int{api.KindInt, api.KindText}
	s := of(4, 9, column(2, a.s, api.KindInt), column(7, b.s, api.KindText))
	long := strings.Repeat("b", 16)
	var got []api.Schema
	keep := func(s api.Schema, e api.Errno) {
		t.Helper()
		if e != api.OK {
			t.Errorf("%d", e)
		}
		got = append(got, s)
	}
	keep(schema.New(names, kinds))
	keep(schema.Add(s, x.s, api.KindBool))
	keep(schema.Drop(s, a.s))
	keep(schema.Drop(s, b.s))
	keep(schema.Rename(s, a.s, x.s))
	keep(schema.Rename(s, b.s, x.s))
	keep(schema.Rename(s, a.s, a.s))
	for _, h := range []held{a, b, x} {
		for i := range h.bytes {
			h.bytes[i] ^= 0x55
		}
	}
	names[0], names[1], kinds[0], kinds[1] = "other", "others", 9, 9
	s.Columns[0], s.Columns[1] = column(77, "other", 9), column(78, "others", 9)
	for i, want := range []api.Schema{
		of(0, 3, column(1, "a", 1), column(2, long, 3)),
		of(5, 10, column(2, "a", 1), column(7, long, 3), column(9, "x_x", 2)),
		of(5, 9, column(7, long, 3)),
		of(5, 9, column(2, "a", 1)),
		of(5, 9, column(2, "x_x", 1), column(7, long, 3)),
		of(5, 9, column(2, "a", 1), column(7, "x_x", 3)),
		of(5, 9, column(2, "a", 1), column(7, long, 3)),
	} {
		if !same(got[i], want) {
			t.Errorf("%d: %s became %s", i, tell(want), tell(got[i]))
		}
	}
}

// span is where memory begins, and where it ends.
type span struct{ from, to uintptr }

// ofName answers a text's memory.
func ofName(s string) span {
	from := uintptr(unsafe.Pointer(unsafe.StringData(s)))
	return span{from, from + uintptr(len(s))}
}

// ofSchema answers all of a schema's memory, its columns' spare room too.
func ofSchema(s api.Schema) []span {
	from := uintptr(unsafe.Pointer(unsafe.SliceData(s.Columns)))
	all := []span{{from, from + uintptr(cap(s.Columns))*unsafe.Sizeof(api.Column{})}}
	for _, c := range s.Columns {
		all = append(all, ofName(c.Name))
	}
	return all
}

// apart asks that no memory of one thing meets that of another.
func apart(t *testing.T, things ...[]span) {
	t.Helper()
	for i, thing := range things {
		for _, first := range thing {
			for _, second := range slices.Concat(things[:i]...) {
				if first.from < second.to && second.from < first.to {
					t.Errorf("%v and %v meet", first, second)
				}
			}
		}
	}
}

// R4: nothing that is answered lies in an argument's memory or in another answer's.
func TestMemoryIsApart(t *testing.T) {
	x, name := strings.Repeat("x", 12), strings.Clone("c0")
	for many := 2; many <= 11; many++ {
		s := ofColumns(many)
		for i := range s.Columns {
			s.Columns[i].Name = strings.Clone(s.Columns[i].Name)
		}
		names, kinds := parted(s)
		things := [][]span{ofSchema(s), {ofName(x)}, {ofName(name)}}
		keep := func(s api.Schema, e api.Errno) {
			t.Helper()
			if e != api.OK {
				t.Errorf("%d", e)
			}
			things = append(things, ofSchema(s))
		}
		for range 2 {
			keep(schema.New(names, kinds))
			keep(schema.Add(s, x, api.KindInt))
			keep(schema.Drop(s, name))
			keep(schema.Drop(s, s.Columns[many-1].Name))
			keep(schema.Rename(s, name, x))
			keep(schema.Rename(s, name, name))
			keep(schema.Rename(s, s.Columns[many-1].Name, x))
		}
		apart(t, things...)
	}
}

// R4: what is written into one answer, its spare room too, is not seen in another.
func TestAnswersAreApart(t *testing.T) {
	s := ofColumns(5)
	more, _ := schema.Add(s, "x", api.KindInt)
	for _, change := range []func() (api.Schema, api.Errno){
		func() (api.Schema, api.Errno) { return schema.Add(more, "y", api.KindInt) },
		func() (api.Schema, api.Errno) { return schema.Drop(more, "c0") },
		func() (api.Schema, api.Errno) { return schema.Drop(more, "x") },
		func() (api.Schema, api.Errno) { return schema.Rename(more, "c1", "y") },
	} {
		one, _ := change()
		two, _ := change()
		want := changed(one, func(*api.Schema) {})
		for i := range cap(one.Columns) {
			one.Columns[:cap(one.Columns)][i] = column(-1, "other", 9)
		}
		if three, _ := change(); !same(two, want) || !same(three, want) {
			t.Errorf("%s became %s, %s", tell(want), tell(two), tell(three))
		}
	}
	// From one schema two go their own ways.
	left, _ := schema.Add(more, "left", api.KindInt)
	right, _ := schema.Add(more, "right", api.KindText)
	if schema.Find(left, "left") != 6 || schema.Find(left, "right") != -1 || schema.Find(right, "right") != 6 || schema.Find(right, "left") != -1 || len(more.Columns) != 6 {
		t.Errorf("%s, %s", tell(left), tell(right))
	}
}

// R5: what was asked ahead plays no part, whoever asks at the same time, of the same schemas even.
func TestSameAnswersEachTime(t *testing.T) {
	var group sync.WaitGroup
	all := some()
	for turn := range 8 {
		group.Go(func() {
			for i := range 10 * len(all) {
				s := all[(i+turn*5)%len(all)]
				judged(t, s, []string{"x", "a", "c0", "c" + strconv.Itoa(i%12), ""}, []int{api.KindInt, 9})
				names, kinds := parted(s)
				want, e := newOf(names, kinds)
				news(t, names, kinds, want, e)
			}
		})
	}
	group.Wait()
}
