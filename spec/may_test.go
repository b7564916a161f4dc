package spec_test

import (
	"math"
	"slices"
	"testing"
	"time"

	"boathouse/api"
)

// P13.1 May: what is ordinary

func TestMayByHand(t *testing.T) {
	number, long := ofKinds(api.KindInt), wide()
	for _, c := range []struct {
		p    api.Spec
		s    api.Schema
		want bool
	}{
		{api.Spec{}, number, true}, {api.Spec{}, long, true}, {api.Spec{Id: 9, Fields: []api.Field{}}, ofKinds(api.KindBool), true},
		{of(field(1, id, 0)), number, true}, {of(field(1, bucket, 16)), number, true}, {of(field(1, cut, 10)), number, true},
		{of(field(1, id, 0)), ofKinds(api.KindBool), true}, {of(field(1, bucket, 2)), ofKinds(api.KindBool), true}, {of(field(1, cut, 2)), ofKinds(api.KindBool), false},
		{of(field(1, id, 0)), ofKinds(api.KindText), true}, {of(field(1, bucket, 1024)), ofKinds(api.KindText), true}, {of(field(1, cut, 1)), ofKinds(api.KindText), true},
		{of(field(7, cut, 10), field(2, id, 0), field(7, bucket, 4)), long, true},
		{of(field(3, bucket, 4), field(4, bucket, 4), field(29, bucket, 4), field(2, bucket, 4)), long, true},
		{of(field(1, id, 0)), long, false}, {of(field(5, id, 0)), long, false}, {of(field(0, id, 0)), long, false},
		{of(field(7, id, 1)), long, false}, {of(field(7, bucket, 0)), long, false}, {of(field(7, cut, 0)), long, false}, {of(field(7, 3, 1)), long, false},
		{of(field(7, id, 0), field(7, id, 0)), long, false}, {of(field(7, bucket, 3), field(7, bucket, 4)), long, false},
		{api.Spec{Id: -1}, number, false}, {api.Spec{}, api.Schema{}, false}, {of(field(1, id, 0)), api.Schema{}, false},
	} {
		may(t, c.p, c.s, c.want)
	}
}

// four answers a spec of wide of so many fields, of each Trans.
func four(many int) api.Spec {
	return of([]api.Field{field(29, cut, 10), field(2, id, 0), field(4, bucket, 7), field(2, cut, 3)}[:many]...)
}

func TestIds(t *testing.T) {
	for many := range 5 {
		for _, number := range []int{0, 1, 2, 1 << 16, top - 1, top} {
			may(t, changed(four(many), func(p *api.Spec) { p.Id = number }), wide(), true)
		}
		for _, number := range []int{-1, -2, -top, -top - 1, top + 1, top + 2, 1 << 32, 1<<32 + 1, -1 << 32, math.MaxInt, math.MinInt, math.MinInt + 1} {
			may(t, changed(four(many), func(p *api.Spec) { p.Id = number }), wide(), false)
		}
	}
}

func TestHowManyFields(t *testing.T) {
	full := ofKinds(slices.Repeat([]int{api.KindInt}, 12)...)
	var all []api.Field
	for _, trans := range []int{id, bucket, cut} {
		for i := range 12 {
			all = append(all, field(i+1, trans, min(trans, 1)))
		}
	}
	for many := range len(all) + 1 {
		may(t, of(all[:many]...), full, many <= api.MaxFields)
		may(t, of(all[len(all)-many:]...), full, many <= api.MaxFields)
	}
	// Of one column there are three pairs, of two more than there may be fields.
	pairs := []api.Field{field(1, id, 0), field(1, bucket, 1), field(1, cut, 1), field(2, id, 0), field(2, bucket, 1), field(2, cut, 1)}
	for many := range 7 {
		may(t, of(pairs[:many]...), ofKinds(api.KindInt, api.KindText), many <= 4)
	}
}

// eachPlace calls a function with each spec of some fields, and each place in it.
func eachPlace(each func(p api.Spec, at int)) {
	for many := 1; many <= 4; many++ {
		for at := range many {
			each(four(many), at)
		}
	}
}

func TestSourcesAtEachPlace(t *testing.T) {
	eachPlace(func(p api.Spec, at int) {
		for _, source := range []int{0, -1, -2, -7, -29, 1, 5, 6, 8, 28, 30, 31, top, top + 1, 1<<32 + 7, 1<<32 + 2, math.MaxInt, math.MinInt, math.MinInt + 7} {
			may(t, changed(p, func(p *api.Spec) { p.Fields[at].Source = source }), wide(), false)
		}
	})
	for _, trans := range []int{id, bucket, cut} {
		for _, c := range wide().Columns {
			may(t, of(field(c.Id, trans, min(trans, 1))), wide(), trans != cut || c.Id != 4)
		}
	}
	// Each column of a full schema, and beside its Ids none.
	full := ofKinds(slices.Repeat([]int{api.KindText}, 12)...)
	for source := -3; source < 20; source++ {
		may(t, of(field(source, id, 0)), full, source >= 1 && source <= 12)
	}
	// Next is no column's Id yet, an Id that is gone none's any more.
	gone := ofKinds(api.KindInt, api.KindInt, api.KindInt)
	gone.Columns = slices.Delete(gone.Columns, 1, 2)
	for source, want := range []bool{false, true, false, true, false} {
		may(t, of(field(source, id, 0)), gone, want)
	}
	last := api.Schema{Next: top, Columns: []api.Column{{Id: top - 1, Name: "a", Kind: api.KindInt}}}
	may(t, of(field(top-1, id, 0)), last, true)
	may(t, of(field(top, id, 0)), last, false)
	may(t, of(field(1, id, 0)), last, false)
}

func TestPairsTwice(t *testing.T) {
	for many := 2; many <= 4; many++ {
		for i := range many {
			for j := range many {
				if i == j {
					continue
				}
				twice := changed(four(many), func(p *api.Spec) { p.Fields[j] = p.Fields[i] })
				may(t, twice, wide(), false)
				// Another Param makes no other pair of it.
				if twice.Fields[i].Trans != id {
					may(t, changed(twice, func(p *api.Spec) { p.Fields[j].Param++ }), wide(), false)
				}
			}
		}
	}
}

// One Source under unlike Trans, one Trans of unlike Sources: in whatever row.
func TestPairsThatAreUnlike(t *testing.T) {
	every := []api.Field{field(7, id, 0), field(7, bucket, 2), field(7, cut, 2), field(2, id, 0), field(2, bucket, 2), field(2, cut, 2), field(29, cut, 2), field(4, id, 0), field(4, bucket, 2)}
	for i, a := range every {
		for j, b := range every {
			may(t, of(a, b), wide(), i != j)
			for k, c := range every {
				apart := i != j && i != k && j != k
				may(t, of(a, b, c), wide(), apart)
				for l, d := range every {
					may(t, of(a, b, c, d), wide(), apart && l != i && l != j && l != k)
				}
			}
		}
	}
}

func TestTransAtEachPlace(t *testing.T) {
	eachPlace(func(p api.Spec, at int) {
		for _, trans := range noTrans() {
			for _, param := range []int{0, 1, 10, 1024} {
				may(t, changed(p, func(p *api.Spec) { p.Fields[at].Trans, p.Fields[at].Param = trans, param }), wide(), false)
			}
		}
	})
}

func TestParamsAtEachPlace(t *testing.T) {
	eachPlace(func(p api.Spec, at int) {
		trans := p.Fields[at].Trans
		for _, param := range fineParams() {
			may(t, changed(p, func(p *api.Spec) { p.Fields[at].Param = param }), wide(), trans != id)
		}
		for _, param := range noParams() {
			may(t, changed(p, func(p *api.Spec) { p.Fields[at].Param = param }), wide(), false)
		}
		may(t, changed(p, func(p *api.Spec) { p.Fields[at].Param = 0 }), wide(), trans == id)
	})
}

// Each Trans with each Param of a column of each kind, first and last of its schema.
func TestTransOfEachKind(t *testing.T) {
	for _, kind := range kinds() {
		for _, trans := range append(noTrans(), id, bucket, cut) {
			for _, param := range append(append(fineParams(), noParams()...), 0) {
				want := fine(trans, param) && (trans != cut || kind != api.KindBool)
				may(t, of(field(1, trans, param)), ofKinds(kind), want)
				may(t, of(field(1, trans, param)), ofKinds(kind, api.KindInt, api.KindBool), want)
				may(t, of(field(3, trans, param)), ofKinds(api.KindBool, api.KindText, kind), want)
			}
		}
	}
}

func TestSchemasThatMayNotBe(t *testing.T) {
	for i, change := range []func(s *api.Schema){
		func(s *api.Schema) { s.Id = -1 },
		func(s *api.Schema) { s.Id = top + 1 },
		func(s *api.Schema) { s.Next = 29 },
		func(s *api.Schema) { s.Next = top + 1 },
		func(s *api.Schema) { s.Columns = nil },
		func(s *api.Schema) { s.Columns[4].Name = "A" },
		func(s *api.Schema) { s.Columns[4].Name = "a" },
		func(s *api.Schema) { s.Columns[4].Kind = api.KindNull },
		func(s *api.Schema) { s.Columns[4].Kind = 4 },
		func(s *api.Schema) { s.Columns[4].Id = 7 },
		func(s *api.Schema) { s.Columns[4].Id = 0 },
		func(s *api.Schema) { *s = ofKinds(slices.Repeat([]int{api.KindInt}, 13)...) },
	} {
		s := wide()
		change(&s)
		for many := range 5 {
			may(t, four(many), s, false)
		}
		for _, c := range s.Columns {
			may(t, of(field(c.Id, id, 0)), s, false)
		}
		if t.Failed() {
			t.Fatalf("change %d", i)
		}
	}
}

// What may be asked ends soon, however much is handed in.
func TestGreatSpecs(t *testing.T) {
	began := time.Now()
	var p api.Spec
	for i := range 1 << 20 {
		p.Fields = append(p.Fields, field(i+1, id, 0))
	}
	for range 20 {
		may(t, p, wide(), false)
	}
	var s api.Schema
	s.Columns = make([]api.Column, 1<<20)
	may(t, p, s, false)
	if took := time.Since(began); took > 10*time.Second {
		t.Errorf("took %s", took)
	}
}

// P13.1: all specs of few parts, and rolled ones

func TestAllShortSpecs(t *testing.T) {
	var every []api.Field
	for _, source := range []int{0, 1, 2, 3} {
		for _, trans := range []int{-1, id, bucket, cut, 3} {
			for _, param := range []int{-1, 0, 1, 1024, 1025} {
				every = append(every, field(source, trans, param))
			}
		}
	}
	s := ofKinds(api.KindText, api.KindBool)
	for _, number := range []int{-1, 0} {
		for _, a := range every {
			p := api.Spec{Id: number, Fields: []api.Field{a}}
			may(t, p, s, mayBe(p, s))
			for _, b := range every {
				p := api.Spec{Id: number, Fields: []api.Field{a, b}}
				may(t, p, s, mayBe(p, s))
			}
		}
	}
}

// Each spec that may be is spoilt in one part, or not.
func TestRolledSpecs(t *testing.T) {
	r := rolls(1)
	for range 20000 {
		s := rolledSchema(r)
		p := rolledSpec(r, s)
		may(t, p, s, true)
		if len(p.Fields) == 0 {
			continue
		}
		f, c := &p.Fields[r.IntN(len(p.Fields))], &s.Columns[r.IntN(len(s.Columns))]
		switch r.IntN(8) {
		case 0:
			p.Id = one(r, -1, top+1, r.IntN(top), -r.IntN(top), top+r.IntN(top))
		case 1:
			f.Source = one(r, 0, -1, s.Next, s.Next-1, c.Id, 1+r.IntN(12), -f.Source)
		case 2:
			f.Trans = one(r, append(noTrans(), id, bucket, cut)...)
		case 3:
			f.Param = one(r, append(append(fineParams(), noParams()...), 0)...)
		case 4:
			*f = one(r, p.Fields...)
		case 5:
			p.Fields = append(p.Fields, field(c.Id, id, 0))
		case 6:
			c.Kind = one(r, append(noKinds()[:4], kinds()...)...)
		case 7:
			c.Id = one(r, 0, s.Next, s.Next-1, f.Source)
		}
		may(t, p, s, mayBe(p, s))
	}
}
