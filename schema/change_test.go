package schema_test

import (
	"math"
	"slices"
	"strconv"
	"strings"
	"testing"

	"boathouse/api"
	"boathouse/schema"
)

// P12.2: what is ordinary

// One change behind the other, each answer written by hand.
func TestOneBehindTheOther(t *testing.T) {
	s := of(0, 3, column(1, "id", 1), column(2, "name", 3))
	news(t, []string{"id", "name"}, []int{api.KindInt, api.KindText}, s, api.OK)
	for _, step := range []struct {
		do, name, to string
		kind         int
		want         api.Schema
	}{
		{"add", "paid", "", api.KindBool, of(1, 4, column(1, "id", 1), column(2, "name", 3), column(3, "paid", 2))},
		{"drop", "name", "", 0, of(2, 4, column(1, "id", 1), column(3, "paid", 2))},
		{"add", "name", "", api.KindInt, of(3, 5, column(1, "id", 1), column(3, "paid", 2), column(4, "name", 1))},
		{"rename", "paid", "p", 0, of(4, 5, column(1, "id", 1), column(3, "p", 2), column(4, "name", 1))},
		{"rename", "name", "paid", 0, of(5, 5, column(1, "id", 1), column(3, "p", 2), column(4, "paid", 1))},
		{"rename", "p", "p", 0, of(6, 5, column(1, "id", 1), column(3, "p", 2), column(4, "paid", 1))},
		{"drop", "id", "", 0, of(7, 5, column(3, "p", 2), column(4, "paid", 1))},
		{"drop", "paid", "", 0, of(8, 5, column(3, "p", 2))},
		{"rename", "p", "id", 0, of(9, 5, column(3, "id", 2))},
		{"add", "p", "", api.KindText, of(10, 6, column(3, "id", 2), column(5, "p", 3))},
		{"drop", "id", "", 0, of(11, 6, column(5, "p", 3))},
	} {
		switch step.do {
		case "add":
			adds(t, s, step.name, step.kind, step.want, api.OK)
		case "drop":
			drops(t, s, step.name, step.want, api.OK)
		case "rename":
			renames(t, s, step.name, step.to, step.want, api.OK)
		}
		s = step.want
		may(t, s, true)
	}
}

func TestFind(t *testing.T) {
	s := three()
	for at, name := range []string{"a", "b_2", "c"} {
		finds(t, s, name, at)
	}
	for _, name := range []string{"", "b", "b_", "b_22", "A", "C", "d", " a", "a ", "a\x00", "1", strings.Repeat("a", api.MaxText)} {
		finds(t, s, name, -1)
	}
	for at := range 12 {
		finds(t, ofColumns(12), "c"+strconv.Itoa(at), at)
	}
	finds(t, api.Schema{}, "", -1)
	finds(t, api.Schema{}, "a", -1)
}

// Of a schema that may not be it is the first place, too, whatever the name is.
func TestFindInWhatMayNotBe(t *testing.T) {
	twice := of(-1, 0, column(0, "b", 9), column(0, "a", 9), column(0, "a", 9), column(0, "b", 9), column(0, "", 9), column(0, "A\xff", 9), column(0, "", 9), column(0, "A\xff", 9))
	for name, at := range map[string]int{"b": 0, "a": 1, "": 4, "A\xff": 5, "A": -1, "\xff": -1, "A\xfe": -1, "A\ufffd": -1} {
		finds(t, twice, name, at)
	}
	mayNot(t, twice)
	many := ofColumns(5000)
	finds(t, many, "c4999", 4999)
	finds(t, changed(many, func(s *api.Schema) { s.Columns[4000].Name = "c4999" }), "c4999", 4000)
}

// P12.2: a schema that may not be

// Each sort of what may not be is in a schema of its own; whatever else is wrong, it is told first.
func TestWhatMayNotBe(t *testing.T) {
	for _, s := range []api.Schema{
		{}, {Next: 5}, ofColumns(13), ofColumns(14),
		changed(three(), func(s *api.Schema) { s.Id = -1 }),
		changed(three(), func(s *api.Schema) { s.Id = top + 1 }),
		changed(three(), func(s *api.Schema) { s.Id = math.MaxInt }),
		changed(three(), func(s *api.Schema) { s.Next = 8 }),
		changed(three(), func(s *api.Schema) { s.Next = 0 }),
		changed(three(), func(s *api.Schema) { s.Next = top + 1 }),
		changed(three(), func(s *api.Schema) { s.Next = math.MaxInt }),
		changed(three(), func(s *api.Schema) { s.Columns[0].Id = 0 }),
		changed(three(), func(s *api.Schema) { s.Columns[1].Id = -1 }),
		changed(three(), func(s *api.Schema) { s.Columns[2].Id = 9 }),
		changed(three(), func(s *api.Schema) { s.Columns[2].Id = 1 }),
		changed(three(), func(s *api.Schema) { s.Columns[2].Name = "a" }),
		changed(three(), func(s *api.Schema) { s.Columns[0].Name = "" }),
		changed(three(), func(s *api.Schema) { s.Columns[1].Name = "B" }),
		changed(three(), func(s *api.Schema) { s.Columns[2].Name = strings.Repeat("c", 17) }),
		changed(three(), func(s *api.Schema) { s.Columns[0].Kind = api.KindNull }),
		changed(three(), func(s *api.Schema) { s.Columns[1].Kind = 4 }),
		changed(three(), func(s *api.Schema) { s.Columns[2].Kind = -1 }),
	} {
		mayNot(t, s)
		names := append([]string{"x", "a", "b_2", "c", "c0", "B"}, noNames()...)
		for _, name := range names {
			for _, kind := range []int{api.KindInt, api.KindNull, 4, -1} {
				adds(t, s, name, kind, api.Schema{}, api.ErrSchemaForm)
			}
			drops(t, s, name, api.Schema{}, api.ErrSchemaForm)
			for _, to := range names {
				renames(t, s, name, to, api.Schema{}, api.ErrSchemaForm)
			}
		}
	}
}

// A change that would mend a schema is refused too.
func TestNoChangeMends(t *testing.T) {
	drops(t, changed(ofColumns(13), func(s *api.Schema) { s.Columns[12].Name = "last" }), "last", api.Schema{}, api.ErrSchemaForm)
	drops(t, changed(three(), func(s *api.Schema) { s.Columns[2].Kind = 4 }), "c", api.Schema{}, api.ErrSchemaForm)
	drops(t, changed(three(), func(s *api.Schema) { s.Columns[2].Id = 1 }), "c", api.Schema{}, api.ErrSchemaForm)
	renames(t, changed(three(), func(s *api.Schema) { s.Columns[2].Name = "C" }), "C", "c", api.Schema{}, api.ErrSchemaForm)
	renames(t, changed(three(), func(s *api.Schema) { s.Columns[2].Name = "a" }), "a", "d", api.Schema{}, api.ErrSchemaForm)
	drops(t, changed(three(), func(s *api.Schema) { s.Columns[2].Id = 9 }), "c", api.Schema{}, api.ErrSchemaForm)
	adds(t, changed(three(), func(s *api.Schema) { s.Next = 8 }), "d", api.KindInt, api.Schema{}, api.ErrSchemaForm)
	adds(t, of(-1, 2, column(1, "a", api.KindInt)), "d", api.KindInt, api.Schema{}, api.ErrSchemaForm)
	adds(t, of(0, 1), "d", api.KindInt, api.Schema{}, api.ErrSchemaForm)
}

// P12.2 Add

func TestAddOfEachKind(t *testing.T) {
	for many := 1; many <= 11; many++ {
		s := changed(ofColumns(many), func(s *api.Schema) { s.Id, s.Next = 40, 70 })
		for _, kind := range kinds() {
			for _, name := range fineNames() {
				adds(t, s, name, kind, changed(s, func(s *api.Schema) {
					s.Id, s.Next = 41, 71
					s.Columns = append(s.Columns, column(70, name, kind))
				}), api.OK)
			}
		}
		for _, kind := range noKinds() {
			adds(t, s, "x", kind, api.Schema{}, api.ErrSchemaForm)
		}
	}
}

func TestAddOfANameThatIsThere(t *testing.T) {
	for at := range 12 {
		name := "c" + strconv.Itoa(at)
		for _, many := range []int{at + 1, 12} {
			adds(t, ofColumns(many), name, api.KindInt, api.Schema{}, api.ErrSchemaName)
		}
		if at > 0 {
			adds(t, ofColumns(at), name, kinds()[at%3], changed(ofColumns(at+1), func(s *api.Schema) { s.Id = 1 }), api.OK)
		}
	}
}

func TestAddAtMaxColumns(t *testing.T) {
	adds(t, ofColumns(11), "x", api.KindBool, changed(ofColumns(12), func(s *api.Schema) { s.Id, s.Columns[11] = 1, column(12, "x", api.KindBool) }), api.OK)
	for _, kind := range kinds() {
		adds(t, ofColumns(12), "x", kind, api.Schema{}, api.ErrSchemaFull)
	}
	// Where there was a column less for a while there is room again.
	s, _ := dropped(ofColumns(12), "c5")
	want, _ := added(s, "x", api.KindInt)
	adds(t, s, "x", api.KindInt, want, api.OK)
	adds(t, want, "y", api.KindInt, api.Schema{}, api.ErrSchemaFull)
}

// Numbers at their greatest

func TestAddAtTheGreatestNumbers(t *testing.T) {
	at := func(id int, next int) api.Schema {
		return changed(three(), func(s *api.Schema) { s.Id, s.Next = id, next })
	}
	adds(t, at(top-1, 9), "x", api.KindInt, of(top, 10, append(three().Columns, column(9, "x", api.KindInt))...), api.OK)
	adds(t, at(0, top-1), "x", api.KindInt, of(1, top, append(three().Columns, column(top-1, "x", api.KindInt))...), api.OK)
	adds(t, at(top-1, top-1), "x", api.KindInt, of(top, top, append(three().Columns, column(top-1, "x", api.KindInt))...), api.OK)
	for _, s := range []api.Schema{at(top, 9), at(0, top), at(top, top), at(top-1, top), at(top, top-1)} {
		adds(t, s, "x", api.KindInt, api.Schema{}, api.ErrSchemaForm)
	}
}

func TestDropAndRenameAtTheGreatestNumbers(t *testing.T) {
	for _, next := range []int{9, 10, top - 1, top} {
		s := changed(three(), func(s *api.Schema) { s.Id, s.Next = top-1, next })
		drops(t, s, "a", of(top, next, three().Columns[1:]...), api.OK)
		renames(t, s, "a", "x", changed(s, func(s *api.Schema) { s.Id, s.Columns[0].Name = top, "x" }), api.OK)
		renames(t, s, "c", "c", changed(s, func(s *api.Schema) { s.Id = top }), api.OK)
		s.Id = top
		for _, name := range []string{"a", "b_2", "c"} {
			drops(t, s, name, api.Schema{}, api.ErrSchemaForm)
			renames(t, s, name, "x", api.Schema{}, api.ErrSchemaForm)
			renames(t, s, name, name, api.Schema{}, api.ErrSchemaForm)
		}
	}
}

// P12.2 Drop

func TestDropAtEachPlace(t *testing.T) {
	for many := 2; many <= 12; many++ {
		for at := range many {
			drops(t, ofColumns(many), "c"+strconv.Itoa(at), changed(ofColumns(many), func(s *api.Schema) {
				s.Id = 1
				s.Columns = slices.Delete(s.Columns, at, at+1)
			}), api.OK)
		}
	}
}

func TestDropOfTheOnlyOne(t *testing.T) {
	for _, kind := range kinds() {
		drops(t, of(3, 9, column(4, "a", kind)), "a", api.Schema{}, api.ErrSchemaFull)
		drops(t, of(3, 9, column(4, "a", kind)), "b", api.Schema{}, api.ErrSchemaNone)
	}
}

func TestDropOfNone(t *testing.T) {
	for _, name := range append(append([]string{"d", "b", "aa"}, fineNames()...), noNames()...) {
		drops(t, three(), name, api.Schema{}, api.ErrSchemaNone)
		drops(t, ofColumns(12), name, api.Schema{}, api.ErrSchemaNone)
	}
}

// No Id is given again, whichever columns are dropped.
func TestIdsAreGivenOnce(t *testing.T) {
	s := ofColumns(12)
	for turn := range 200 {
		gone := s.Columns[turn*7%len(s.Columns)]
		left, e := schema.Drop(s, gone.Name)
		if e != api.OK {
			t.Fatalf("Drop: %d", e)
		}
		again, e := schema.Add(left, gone.Name, gone.Kind)
		if e != api.OK {
			t.Fatalf("Add: %d", e)
		}
		added := again.Columns[len(again.Columns)-1]
		if added != column(13+turn, gone.Name, gone.Kind) || left.Next != 13+turn || again.Next != 14+turn || again.Id != 2*turn+2 {
			t.Errorf("turn %d: %v in %s", turn, added, tell(again))
		}
		s = again
	}
	// The last column's Id is not given again either, though it was the greatest.
	s = of(0, 3, column(1, "a", api.KindInt), column(2, "b", api.KindInt))
	drops(t, s, "b", of(1, 3, column(1, "a", api.KindInt)), api.OK)
	adds(t, of(1, 3, column(1, "a", api.KindInt)), "b", api.KindInt, of(2, 4, column(1, "a", api.KindInt), column(3, "b", api.KindInt)), api.OK)
}

// P12.2 Rename

func TestRenameAtEachPlace(t *testing.T) {
	for many := 1; many <= 12; many++ {
		for at := range many {
			name := "c" + strconv.Itoa(at)
			for _, to := range append(fineNames(), name) {
				renames(t, ofColumns(many), name, to, changed(ofColumns(many), func(s *api.Schema) { s.Id, s.Columns[at].Name = 1, to }), api.OK)
			}
			for _, to := range noNames() {
				renames(t, ofColumns(many), name, to, api.Schema{}, api.ErrSchemaName)
			}
			for other := range many {
				if other != at {
					renames(t, ofColumns(many), name, "c"+strconv.Itoa(other), api.Schema{}, api.ErrSchemaName)
				}
			}
		}
	}
}

func TestRenameOfNone(t *testing.T) {
	for _, name := range append([]string{"d", "b", "aa", ""}, noNames()...) {
		for _, to := range []string{"x", "a", "c", "", "X", name} {
			renames(t, three(), name, to, api.Schema{}, api.ErrSchemaNone)
		}
	}
}

// R6: which error comes first

func TestFirstErrors(t *testing.T) {
	full := func(id int, next int) api.Schema {
		return changed(ofColumns(12), func(s *api.Schema) { s.Id, s.Next = id, next })
	}
	lone := of(top, top, column(1, "a", api.KindInt))
	for _, s := range []api.Schema{full(0, 13), full(top, 13), full(0, top), full(top, top)} {
		// A name goes ahead of a kind, a kind ahead of the number of columns, that ahead of numbers at their greatest.
		for _, name := range append([]string{"c0", "c11"}, noNames()...) {
			for _, kind := range append(noKinds(), kinds()...) {
				adds(t, s, name, kind, api.Schema{}, api.ErrSchemaName)
			}
		}
		for _, kind := range noKinds() {
			adds(t, s, "x", kind, api.Schema{}, api.ErrSchemaForm)
		}
		adds(t, s, "x", api.KindText, api.Schema{}, api.ErrSchemaFull)
		drops(t, s, "x", api.Schema{}, api.ErrSchemaNone)
		renames(t, s, "x", "", api.Schema{}, api.ErrSchemaNone)
		renames(t, s, "x", "c0", api.Schema{}, api.ErrSchemaNone)
		renames(t, s, "c0", "", api.Schema{}, api.ErrSchemaName)
		renames(t, s, "c0", "c1", api.Schema{}, api.ErrSchemaName)
	}
	adds(t, lone, "a", 4, api.Schema{}, api.ErrSchemaName)
	adds(t, lone, "A", api.KindInt, api.Schema{}, api.ErrSchemaName)
	drops(t, lone, "x", api.Schema{}, api.ErrSchemaNone)
	drops(t, lone, "a", api.Schema{}, api.ErrSchemaFull)
	renames(t, lone, "x", "", api.Schema{}, api.ErrSchemaNone)
	renames(t, lone, "a", "", api.Schema{}, api.ErrSchemaName)
	renames(t, lone, "a", "a", api.Schema{}, api.ErrSchemaForm)
}

// All changes of schemas of few parts, and of rolled ones

func TestAllShortChanges(t *testing.T) {
	names := []string{"", "a", "b", "x", "A"}
	var all []api.Column
	for _, id := range []int{0, 1, 2} {
		for _, name := range []string{"", "a", "b"} {
			for _, kind := range []int{api.KindNull, api.KindBool} {
				all = append(all, column(id, name, kind))
			}
		}
	}
	for _, id := range []int{-1, 0, top} {
		for _, next := range []int{2, 3, top} {
			judged(t, of(id, next), names, []int{0, 1})
			for _, c := range all {
				judged(t, of(id, next, c), names, []int{0, 1})
				for _, d := range all {
					judged(t, of(id, next, c, d), names, []int{0, 1})
				}
			}
		}
	}
}

func TestRolledChanges(t *testing.T) {
	r := rolls(4)
	for range 3000 {
		s := rolled(r)
		if r.IntN(5) == 0 {
			c := &s.Columns[r.IntN(len(s.Columns))]
			c.Name = one(r, "a", "A", s.Columns[0].Name)
		}
		names := []string{rolledName(r), one(r, noNames()...), s.Columns[r.IntN(len(s.Columns))].Name, s.Columns[len(s.Columns)-1].Name}
		judged(t, s, names, []int{one(r, kinds()...), one(r, noKinds()...)})
	}
}

// Long rows of changes, each of what the one ahead answered.
func TestRolledRows(t *testing.T) {
	r := rolls(5)
	for range 300 {
		s := changed(ofColumns(1+r.IntN(12)), func(s *api.Schema) { s.Id, s.Next = one(r, 0, top-20), one(r, 13, top-10) })
		given := map[int]bool{}
		for range 40 {
			name, to, kind := rolledName(r), rolledName(r), one(r, 1, 2, 3, 0)
			if r.IntN(3) > 0 {
				name = s.Columns[r.IntN(len(s.Columns))].Name
			}
			var next, want api.Schema
			var e, wantE api.Errno
			switch r.IntN(3) {
			case 0:
				next, e = schema.Add(s, to, kind)
				want, wantE = added(s, to, kind)
			case 1:
				next, e = schema.Drop(s, name)
				want, wantE = dropped(s, name)
			case 2:
				next, e = schema.Rename(s, name, to)
				want, wantE = renamed(s, name, to)
			}
			is(t, "a change of "+tell(s), next, e, want, wantE)
			if e != api.OK {
				continue
			}
			may(t, next, true)
			if next.Next > s.Next {
				if given[s.Next] {
					t.Errorf("the Id %d is given again", s.Next)
				}
				given[s.Next] = true
			}
			s = next
		}
	}
}
