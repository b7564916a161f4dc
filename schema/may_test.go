package schema_test

import (
	"math"
	"slices"
	"strconv"
	"strings"
	"testing"
	"time"

	"boathouse/api"
	"boathouse/schema"
)

// P12.1 May and New: what is ordinary

func TestMayByHand(t *testing.T) {
	for _, s := range []api.Schema{
		of(0, 2, column(1, "a", api.KindInt)),
		of(0, 2, column(1, "a", api.KindBool)),
		of(0, 2, column(1, "a", api.KindText)),
		of(0, 4, column(1, "a", api.KindInt), column(2, "b", api.KindText), column(3, "c", api.KindBool)),
		of(7, 30, column(4, "id", api.KindInt), column(11, "name_2", api.KindText)),
		// Ids need not rise, nor need they stand side by side, and the kinds may be one.
		of(1, 4, column(3, "a", api.KindInt), column(2, "b", api.KindInt), column(1, "c", api.KindInt)),
		of(1, 100, column(50, "a", api.KindInt), column(99, "b", api.KindBool), column(1, "c", api.KindText), column(98, "d", api.KindText)),
		// Names that are nearly one.
		of(1, 8, column(1, "a", api.KindInt), column(2, "a_", api.KindInt), column(3, "_a", api.KindInt), column(4, "aa", api.KindInt), column(5, "a0", api.KindInt), column(6, "0", api.KindInt), column(7, "00", api.KindInt)),
		three(), ofColumns(1), ofColumns(2), ofColumns(11), ofColumns(12),
	} {
		may(t, s, true)
	}
	for _, s := range []api.Schema{
		{}, of(0, 2), of(0, 1, column(1, "a", api.KindInt)), of(0, 2, column(0, "a", api.KindInt)),
		of(0, 2, column(1, "", api.KindInt)), of(0, 2, column(1, "A", api.KindInt)), of(0, 2, column(1, "a", api.KindNull)), of(0, 2, column(1, "a", 4)),
		of(-1, 2, column(1, "a", api.KindInt)), of(0, 3, column(1, "a", api.KindInt), column(1, "b", api.KindInt)), of(0, 3, column(1, "a", api.KindInt), column(2, "a", api.KindInt)),
		ofColumns(0), ofColumns(13),
	} {
		mayNot(t, s)
	}
}

func TestNewByHand(t *testing.T) {
	for _, c := range []struct {
		names []string
		kinds []int
		want  api.Schema
	}{
		{[]string{"a"}, []int{api.KindInt}, of(0, 2, column(1, "a", 1))},
		{[]string{"a"}, []int{api.KindBool}, of(0, 2, column(1, "a", 2))},
		{[]string{"_"}, []int{api.KindText}, of(0, 2, column(1, "_", 3))},
		{[]string{"b", "a"}, []int{api.KindText, api.KindInt}, of(0, 3, column(1, "b", 3), column(2, "a", 1))},
		{[]string{"z", "0", "zz", "abcdefghijklmnop"}, []int{api.KindBool, api.KindBool, api.KindText, api.KindInt}, of(0, 5, column(1, "z", 2), column(2, "0", 2), column(3, "zz", 3), column(4, "abcdefghijklmnop", 1))},
	} {
		news(t, c.names, c.kinds, c.want, api.OK)
		may(t, c.want, true)
	}
	for many := 1; many <= 12; many++ {
		want := ofColumns(many)
		names, kinds := parted(want)
		news(t, names, kinds, want, api.OK)
	}
}

// parted answers a schema's names and kinds.
func parted(s api.Schema) ([]string, []int) {
	var names []string
	var kinds []int
	for _, c := range s.Columns {
		names = append(names, c.Name)
		kinds = append(kinds, c.Kind)
	}
	return names, kinds
}

// P12.1: a schema's numbers

func TestIds(t *testing.T) {
	for _, id := range []int{0, 1, 2, 1 << 16, top - 1, top} {
		may(t, changed(three(), func(s *api.Schema) { s.Id = id }), true)
	}
	for _, id := range []int{-1, -2, -top, -top - 1, top + 1, top + 2, 1 << 32, 1<<32 + 1, -1 << 32, math.MaxInt, math.MinInt, math.MinInt + 1} {
		mayNot(t, changed(three(), func(s *api.Schema) { s.Id = id }))
		mayNot(t, changed(ofColumns(1), func(s *api.Schema) { s.Id = id }))
		mayNot(t, changed(ofColumns(12), func(s *api.Schema) { s.Id = id }))
	}
}

func TestNexts(t *testing.T) {
	for _, next := range []int{9, 10, 1 << 16, top - 1, top} {
		may(t, changed(three(), func(s *api.Schema) { s.Next = next }), true)
	}
	for _, next := range []int{8, 7, 1, 0, -1, top + 1, top + 2, 1 << 32, 1<<32 + 9, math.MaxInt, math.MinInt, math.MinInt + 1} {
		mayNot(t, changed(three(), func(s *api.Schema) { s.Next = next }))
	}
	for many := 1; many <= 12; many++ {
		may(t, changed(ofColumns(many), func(s *api.Schema) { s.Next = many + 1 }), true)
		mayNot(t, changed(ofColumns(many), func(s *api.Schema) { s.Next = many }))
	}
	may(t, of(top, top, column(top-1, "a", api.KindInt)), true)
	mayNot(t, of(top, top, column(top, "a", api.KindInt)))
	mayNot(t, of(top, top+1, column(top, "a", api.KindInt)))
}

func TestHowManyColumns(t *testing.T) {
	for many := range 40 {
		may(t, ofColumns(many), many >= 1 && many <= api.MaxColumns)
	}
	for _, many := range []int{0, 13, 14, 64, 256 + 1, 4096} {
		mayNot(t, ofColumns(many))
		names, kinds := parted(ofColumns(many))
		news(t, names, kinds, api.Schema{}, api.ErrSchemaForm)
	}
	mayNot(t, api.Schema{Id: 1, Columns: []api.Column{}, Next: 5})
}

// P12.1: columns' Ids

func TestIdsAtEachPlace(t *testing.T) {
	for _, many := range []int{1, 2, 3, 12} {
		spare := changed(ofColumns(many), func(s *api.Schema) { s.Next = 20 })
		for at := range many {
			for _, id := range []int{13, 14, 18, 19, at + 1} {
				may(t, changed(spare, func(s *api.Schema) { s.Columns[at].Id = id }), true)
			}
			for _, id := range []int{0, -1, -2, -at - 1, 20, 21, top, top + 1, 1<<32 + at + 1, math.MaxInt, math.MinInt, math.MinInt + 1} {
				mayNot(t, changed(spare, func(s *api.Schema) { s.Columns[at].Id = id }))
			}
			may(t, changed(ofColumns(many), func(s *api.Schema) { s.Columns[at].Id, s.Next = top-1, top }), true)
			mayNot(t, changed(ofColumns(many), func(s *api.Schema) { s.Columns[at].Id, s.Next = top, top }))
		}
	}
}

// pairs calls a function with each two places of so many.
func pairs(many int, each func(i int, j int)) {
	for i := range many {
		for j := range i {
			each(i, j)
		}
	}
}

func TestIdsAlike(t *testing.T) {
	for _, many := range []int{2, 3, 12} {
		pairs(many, func(i int, j int) {
			mayNot(t, changed(ofColumns(many), func(s *api.Schema) { s.Columns[i].Id = s.Columns[j].Id }))
			mayNot(t, changed(ofColumns(many), func(s *api.Schema) { s.Columns[j].Id = s.Columns[i].Id }))
		})
	}
}

func TestIdsInWhateverRow(t *testing.T) {
	pairs(12, func(i int, j int) {
		may(t, changed(ofColumns(12), func(s *api.Schema) { s.Columns[i].Id, s.Columns[j].Id = s.Columns[j].Id, s.Columns[i].Id }), true)
	})
	r := rolls(1)
	for range 200 {
		s := ofColumns(12)
		r.Shuffle(12, func(i int, j int) { s.Columns[i].Id, s.Columns[j].Id = s.Columns[j].Id, s.Columns[i].Id })
		may(t, s, true)
	}
}

// P12.1: names

// named asks all calls that take a name, or a schema with it, whether it is one; at each place of a schema of so many columns.
func named(t *testing.T, name string, many int) {
	t.Helper()
	fine := strings.Trim(name, signs) == "" && len(name) >= 1 && len(name) <= 16
	for at := range many {
		s := changed(ofColumns(many), func(s *api.Schema) { s.Columns[at].Name = name })
		names, kinds := parted(s)
		if !fine {
			mayNot(t, s)
			news(t, names, kinds, api.Schema{}, api.ErrSchemaForm)
			renames(t, ofColumns(many), "c"+strconv.Itoa(at), name, api.Schema{}, api.ErrSchemaName)
			continue
		}
		may(t, s, true)
		news(t, names, kinds, s, api.OK)
		renames(t, ofColumns(many), "c"+strconv.Itoa(at), name, changed(s, func(s *api.Schema) { s.Id = 1 }), api.OK)
		finds(t, s, name, at)
	}
	want, e := api.Schema{}, api.ErrSchemaName
	if fine {
		want, e = changed(ofColumns(many+1), func(s *api.Schema) { s.Columns[many].Name, s.Columns[many].Kind, s.Id = name, api.KindText, 1 }), api.OK
	}
	adds(t, ofColumns(many), name, api.KindText, want, e)
	finds(t, ofColumns(many), name, -1)
	drops(t, ofColumns(many), name, api.Schema{}, api.ErrSchemaNone)
	renames(t, ofColumns(many), name, "x", api.Schema{}, api.ErrSchemaNone)
}

func TestNames(t *testing.T) {
	for _, name := range append(fineNames(), noNames()...) {
		for _, many := range []int{1, 2, 3, 11} {
			named(t, name, many)
		}
	}
}

func TestNamesOfEachLength(t *testing.T) {
	for length := range 70 {
		for _, sign := range []string{"a", "z", "0", "9", "_", "A", "\x80"} {
			named(t, strings.Repeat(sign, length), 2)
		}
	}
}

// Each byte, alone and at each place of a name.
func TestEachByte(t *testing.T) {
	for b := range 256 {
		sign := string([]byte{byte(b)})
		named(t, sign, 1)
		for _, around := range []string{"aa", "__", "0z", strings.Repeat("m", 14), strings.Repeat("m", 15)} {
			for at := range len(around) + 1 {
				named(t, around[:at]+sign+around[at:], 1)
			}
		}
		named(t, "m"+sign+"m", 3)
	}
}

// Each byte beside those that a name may hold.
func TestBytesBeside(t *testing.T) {
	for _, name := range []string{"`", "{", "/", ":", "^", "@", "[", "a`", "{z", "0/", ":9", "_^", "A", "Z", "\x7f", "\x80", "\xe1", "\xdf"} {
		mayNot(t, of(0, 2, column(1, name, api.KindInt)))
	}
}

func TestNamesAlike(t *testing.T) {
	for _, many := range []int{2, 3, 12} {
		pairs(many, func(i int, j int) {
			for _, name := range []string{"x", "abcdefghijklmnop", "c0"} {
				s := changed(ofColumns(many), func(s *api.Schema) { s.Columns[i].Name, s.Columns[j].Name = name, strings.Clone(name) })
				mayNot(t, s)
				names, kinds := parted(s)
				news(t, names, kinds, api.Schema{}, api.ErrSchemaForm)
			}
		})
	}
}

// P12.1: kinds

func TestKindsAtEachPlace(t *testing.T) {
	for _, many := range []int{1, 2, 12} {
		for at := range many {
			for _, kind := range kinds() {
				s := changed(ofColumns(many), func(s *api.Schema) { s.Columns[at].Kind = kind })
				may(t, s, true)
				names, kinds := parted(s)
				news(t, names, kinds, s, api.OK)
			}
			for _, kind := range noKinds() {
				s := changed(ofColumns(many), func(s *api.Schema) { s.Columns[at].Kind = kind })
				mayNot(t, s)
				names, kinds := parted(s)
				news(t, names, kinds, api.Schema{}, api.ErrSchemaForm)
			}
		}
	}
}

// P12.1 New: as many names as kinds

func TestAsManyNamesAsKinds(t *testing.T) {
	names, kinds := parted(ofColumns(12))
	names, kinds = append(names, "more"), append(kinds, api.KindInt)
	for many := range 14 {
		for each := range 14 {
			want, e := api.Schema{}, api.ErrSchemaForm
			if many == each && many >= 1 && many <= 12 {
				want, e = ofColumns(many), api.OK
			}
			news(t, names[:many], kinds[:each], want, e)
		}
	}
	news(t, nil, nil, api.Schema{}, api.ErrSchemaForm)
	news(t, []string{}, []int{}, api.Schema{}, api.ErrSchemaForm)
	news(t, names[:1], nil, api.Schema{}, api.ErrSchemaForm)
	news(t, nil, kinds[:1], api.Schema{}, api.ErrSchemaForm)
	news(t, []string{""}, []int{api.KindInt}, api.Schema{}, api.ErrSchemaForm)
}

// What may be asked ends soon, however much is handed in.
func TestGreatSchemas(t *testing.T) {
	began := time.Now()
	long := strings.Repeat("a", 1<<24)
	names := slices.Repeat([]string{long}, 1<<17)
	kinds := slices.Repeat([]int{api.KindInt}, 1<<17)
	news(t, names, kinds, api.Schema{}, api.ErrSchemaForm)
	news(t, names[:12], kinds[:12], api.Schema{}, api.ErrSchemaForm)
	s := of(0, top)
	for i := range 1 << 17 {
		s.Columns = append(s.Columns, column(i+1, strconv.Itoa(i), api.KindInt))
	}
	mayNot(t, s)
	finds(t, s, strconv.Itoa(1<<17-1), 1<<17-1)
	finds(t, s, "none", -1)
	mayNot(t, of(0, 13, column(1, long, api.KindInt), column(2, long, api.KindInt)))
	finds(t, of(0, 2, column(1, long, api.KindInt)), long[1:], -1)
	adds(t, three(), long, api.KindInt, api.Schema{}, api.ErrSchemaName)
	renames(t, three(), "a", long, api.Schema{}, api.ErrSchemaName)
	drops(t, three(), long, api.Schema{}, api.ErrSchemaNone)
	if took := time.Since(began); took > 10*time.Second {
		t.Errorf("took %s", took)
	}
}

// P12.1: all schemas of few parts, and rolled ones

func TestAllShortSchemas(t *testing.T) {
	var all []api.Column
	for _, id := range []int{0, 1, 2, 3} {
		for _, name := range []string{"", "a", "b", "B"} {
			for _, kind := range []int{api.KindNull, api.KindInt, api.KindText, 4} {
				all = append(all, column(id, name, kind))
			}
		}
	}
	lists := [][]api.Column{nil}
	for _, c := range all {
		lists = append(lists, []api.Column{c})
		for _, d := range all {
			lists = append(lists, []api.Column{c, d})
		}
	}
	for _, columns := range lists {
		for _, id := range []int{-1, 0, top, top + 1} {
			for _, next := range []int{0, 1, 2, 3, 4, top, top + 1} {
				s := of(id, next, columns...)
				if got := schema.May(s); got != mayBe(s) {
					t.Errorf("May(%s): %v", tell(s), got)
				}
			}
		}
	}
}

// Each schema that may be is spoilt in one part, or not.
func TestRolledSchemas(t *testing.T) {
	r := rolls(2)
	for range 20000 {
		s := rolled(r)
		may(t, s, true)
		at := r.IntN(len(s.Columns))
		c := &s.Columns[at]
		switch r.IntN(7) {
		case 0:
			s.Id = one(r, -1, top, top+1, -r.IntN(top), top+r.IntN(top))
		case 1:
			s.Next = one(r, c.Id, c.Id+1, top, top+1, s.Next-1)
		case 2:
			c.Id = one(r, 0, 1, s.Next-1, s.Next, s.Columns[0].Id, -c.Id)
		case 3:
			c.Name = one(r, append(noNames(), fineNames()...)...)
		case 4:
			c.Name = s.Columns[r.IntN(len(s.Columns))].Name
		case 5:
			c.Kind = one(r, append(noKinds(), kinds()...)...)
		case 6:
			s.Columns = append(s.Columns, column(s.Next-1, "more", api.KindInt))
		}
		may(t, s, mayBe(s))
	}
}

func TestRolledNew(t *testing.T) {
	r := rolls(3)
	for range 20000 {
		var names []string
		var some []int
		for range r.IntN(14) {
			name, kind := rolledName(r), one(r, kinds()...)
			if r.IntN(40) == 0 {
				name = one(r, noNames()...)
			}
			if r.IntN(40) == 0 {
				kind = one(r, noKinds()...)
			}
			names, some = append(names, name), append(some, kind)
		}
		if r.IntN(20) == 0 {
			some = append(some, api.KindInt)
		}
		want, e := newOf(names, some)
		news(t, names, some, want, e)
	}
}
