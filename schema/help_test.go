package schema_test

import (
	"math"
	"math/rand/v2"
	"slices"
	"strconv"
	"strings"
	"testing"

	"boathouse/api"
	"boathouse/schema"
)

// top is the greatest Id of a schema and the greatest Next, as the document writes it.
const top = 1<<31 - 1

// column answers a column.
func column(id int, name string, kind int) api.Column {
	return api.Column{Id: id, Name: name, Kind: kind}
}

// of answers a schema.
func of(id int, next int, columns ...api.Column) api.Schema {
	return api.Schema{Id: id, Columns: columns, Next: next}
}

// three answers a schema of a column of each Kind.
func three() api.Schema {
	return of(5, 9, column(1, "a", api.KindInt), column(4, "b_2", api.KindText), column(8, "c", api.KindBool))
}

// ofColumns answers a schema of so many columns, by name c0 and on, with the Ids 1 and on.
func ofColumns(many int) api.Schema {
	s := of(0, many+1)
	for i := range many {
		s.Columns = append(s.Columns, column(i+1, "c"+strconv.Itoa(i), kinds()[i%3]))
	}
	return s
}

// changed answers a schema that is s but for what a function does to it.
func changed(s api.Schema, change func(s *api.Schema)) api.Schema {
	s.Columns = slices.Clone(s.Columns)
	change(&s)
	return s
}

// same tells whether schemas are one, field by field.
func same(a api.Schema, b api.Schema) bool {
	return a.Id == b.Id && a.Next == b.Next && slices.Equal(a.Columns, b.Columns)
}

// kinds are those that a column may be of.
func kinds() []int { return []int{api.KindInt, api.KindBool, api.KindText} }

// noKinds are kinds that no column is of; the lowest bits of some are a column's kind.
func noKinds() []int {
	all := []int{api.KindNull, 4, 5, 7, 8, 9, 255, -1, -2, -3, -4, math.MinInt, math.MinInt + 1, math.MinInt + 3, math.MaxInt, math.MaxInt - 1}
	for bit := 8; bit < 63; bit += 8 {
		for low := range api.KindText + 1 {
			all = append(all, 1<<bit+low, -1<<bit+low)
		}
	}
	return all
}

// signs are all bytes that a name may hold, written one by one.
const signs = "abcdefghijklmnopqrstuvwxyz0123456789_"

// fineNames are names that may be; no column of the tests' schemas has one of them.
func fineNames() []string {
	return []string{"x", "_", "0", "9", "z", "__", "0a", "a0", "a_", "aa", "_9_", "abcdefghijklmnop", "qrstuvwxyz012345", "6789____________", "0000000000000000"}
}

// noNames are texts that no column's name may be.
func noNames() []string {
	all := []string{
		"", " ", "A", "Z", "a b", " a", "a ", "a\n", "\ta", "a-b", "a.b", "a\x00", "\x00", "é", "aé", "\xff", "a\x80", "\xc3", "日", "\U0001f600", "ａ", "à", "aA", "Aa", "ª", "²", "٣", "ſ", "\ufffd",
		"abcdefghijklmnopq", "00000000000000000", "éééééééé", "éééééééééééééééé", strings.Repeat("_", 32), strings.Repeat("a", 256+1), strings.Repeat("a", api.MaxText),
	}
	return append(all, "a"+strings.Repeat(" ", 15), strings.Repeat("a", 15)+"A", strings.Repeat("a", 16)+"\n")
}

// What the calls are to answer, told once more.

// isName tells whether a text is a name: nothing is left of it where the signs are taken away.
func isName(s string) bool {
	return s != "" && len(s) <= 16 && strings.Trim(s, signs) == ""
}

// isKind tells whether a column may be of a kind.
func isKind(kind int) bool { return slices.Contains(kinds(), kind) }

// lists answers a schema's Ids and names, sorted.
func lists(s api.Schema) ([]int, []string) {
	var ids []int
	var names []string
	for _, c := range s.Columns {
		ids = append(ids, c.Id)
		names = append(names, c.Name)
	}
	slices.Sort(ids)
	slices.Sort(names)
	return ids, names
}

// mayBe tells whether a schema may be: alike Ids and names stand side by side where they are sorted.
func mayBe(s api.Schema) bool {
	ids, names := lists(s)
	many := len(ids)
	if many == 0 || many > 12 || s.Id < 0 || s.Id > top || s.Next > top {
		return false
	}
	if ids[0] <= 0 || ids[many-1] >= s.Next || len(slices.Compact(ids)) < many || len(slices.Compact(slices.Clone(names))) < many {
		return false
	}
	return !slices.ContainsFunc(s.Columns, func(c api.Column) bool { return !isName(c.Name) || !isKind(c.Kind) })
}

// placeOf answers the place of the first column of a name by walking from behind.
func placeOf(s api.Schema, name string) int {
	place := -1
	for i := len(s.Columns) - 1; i >= 0; i-- {
		if s.Columns[i].Name == name {
			place = i
		}
	}
	return place
}

// cause is an error, and whether it applies.
type cause struct {
	applies bool
	e       api.Errno
}

// first answers the error that is named first of those that apply.
func first(causes ...cause) api.Errno {
	for _, c := range causes {
		if c.applies {
			return c.e
		}
	}
	return api.OK
}

// newOf answers what New is to answer.
func newOf(names []string, kinds []int) (api.Schema, api.Errno) {
	s := of(0, len(names)+1)
	if len(names) != len(kinds) {
		return api.Schema{}, api.ErrSchemaForm
	}
	for i := range names {
		s.Columns = append(s.Columns, column(i+1, names[i], kinds[i]))
	}
	if !mayBe(s) {
		return api.Schema{}, api.ErrSchemaForm
	}
	return s, api.OK
}

// added answers what Add is to answer.
func added(s api.Schema, name string, kind int) (api.Schema, api.Errno) {
	if e := first(
		cause{!mayBe(s), api.ErrSchemaForm},
		cause{!isName(name), api.ErrSchemaName}, cause{placeOf(s, name) >= 0, api.ErrSchemaName},
		cause{!isKind(kind), api.ErrSchemaForm}, cause{len(s.Columns) >= 12, api.ErrSchemaFull},
		cause{s.Id+1 > top, api.ErrSchemaForm}, cause{s.Next+1 > top, api.ErrSchemaForm},
	); e != api.OK {
		return api.Schema{}, e
	}
	return of(s.Id+1, s.Next+1, slices.Concat(s.Columns, []api.Column{column(s.Next, name, kind)})...), api.OK
}

// dropped answers what Drop is to answer.
func dropped(s api.Schema, name string) (api.Schema, api.Errno) {
	if e := first(
		cause{!mayBe(s), api.ErrSchemaForm}, cause{placeOf(s, name) < 0, api.ErrSchemaNone},
		cause{len(s.Columns) == 1, api.ErrSchemaFull}, cause{s.Id+1 > top, api.ErrSchemaForm},
	); e != api.OK {
		return api.Schema{}, e
	}
	at := placeOf(s, name)
	return of(s.Id+1, s.Next, slices.Concat(s.Columns[:at], s.Columns[at+1:])...), api.OK
}

// renamed answers what Rename is to answer.
func renamed(s api.Schema, name string, to string) (api.Schema, api.Errno) {
	if e := first(
		cause{!mayBe(s), api.ErrSchemaForm}, cause{placeOf(s, name) < 0, api.ErrSchemaNone},
		cause{!isName(to), api.ErrSchemaName}, cause{placeOf(s, to) >= 0 && to != name, api.ErrSchemaName},
		cause{s.Id+1 > top, api.ErrSchemaForm},
	); e != api.OK {
		return api.Schema{}, e
	}
	return changed(s, func(s *api.Schema) {
		s.Id++
		s.Columns[placeOf(*s, name)].Name = to
	}), api.OK
}

// What the tests ask.

// quoted cuts what a fault tells of a name.
func quoted(name string) string {
	if len(name) > 24 {
		return strconv.QuoteToASCII(name[:20]) + " .. (" + strconv.Itoa(len(name)) + " bytes)"
	}
	return strconv.QuoteToASCII(name)
}

// tell cuts what a fault tells of a schema.
func tell(s api.Schema) string {
	told := "{" + strconv.Itoa(s.Id)
	for _, c := range s.Columns[:min(len(s.Columns), 13)] {
		told += " {" + strconv.Itoa(c.Id) + " " + quoted(c.Name) + " " + strconv.Itoa(c.Kind) + "}"
	}
	return told + " (" + strconv.Itoa(len(s.Columns)) + " columns) " + strconv.Itoa(s.Next) + "}"
}

// is asks of a call's answer that it is as wanted: beside an error a schema without anything.
func is(t *testing.T, call string, got api.Schema, e api.Errno, want api.Schema, wantE api.Errno) {
	t.Helper()
	if !same(got, want) || e != wantE {
		t.Errorf("%s: %s, %d, not %s, %d", call, tell(got), e, tell(want), wantE)
	}
}

// may asks whether a schema may be.
func may(t *testing.T, s api.Schema, want bool) {
	t.Helper()
	if got := schema.May(s); got != want {
		t.Errorf("May(%s): %v", tell(s), got)
	}
}

// news asks New for a schema.
func news(t *testing.T, names []string, kinds []int, want api.Schema, wantE api.Errno) {
	t.Helper()
	got, e := schema.New(names, kinds)
	call := "New(" + strconv.Itoa(len(names)) + " names, " + strconv.Itoa(len(kinds)) + " kinds"
	for _, name := range names[:min(len(names), 13)] {
		call += " " + quoted(name)
	}
	is(t, call+")", got, e, want, wantE)
}

// adds asks Add for a schema.
func adds(t *testing.T, s api.Schema, name string, kind int, want api.Schema, wantE api.Errno) {
	t.Helper()
	got, e := schema.Add(s, name, kind)
	is(t, "Add("+tell(s)+", "+quoted(name)+", "+strconv.Itoa(kind)+")", got, e, want, wantE)
}

// drops asks Drop for a schema.
func drops(t *testing.T, s api.Schema, name string, want api.Schema, wantE api.Errno) {
	t.Helper()
	got, e := schema.Drop(s, name)
	is(t, "Drop("+tell(s)+", "+quoted(name)+")", got, e, want, wantE)
}

// renames asks Rename for a schema.
func renames(t *testing.T, s api.Schema, name string, to string, want api.Schema, wantE api.Errno) {
	t.Helper()
	got, e := schema.Rename(s, name, to)
	is(t, "Rename("+tell(s)+", "+quoted(name)+", "+quoted(to)+")", got, e, want, wantE)
}

// finds asks Find for a place.
func finds(t *testing.T, s api.Schema, name string, want int) {
	t.Helper()
	if got := schema.Find(s, name); got != want {
		t.Errorf("Find(%s, %s): %d, not %d", tell(s), quoted(name), got, want)
	}
}

// mayNot asks that a schema may not be, and that each change of it is refused for that, whatever else is wrong; Find tells a place all the same.
func mayNot(t *testing.T, s api.Schema) {
	t.Helper()
	may(t, s, false)
	names := []string{"x", "a", "", "A"}
	if len(s.Columns) > 0 {
		names = append(names, s.Columns[0].Name, s.Columns[len(s.Columns)-1].Name)
	}
	none := api.Schema{}
	for _, name := range names {
		adds(t, s, name, api.KindInt, none, api.ErrSchemaForm)
		adds(t, s, name, api.KindNull, none, api.ErrSchemaForm)
		drops(t, s, name, none, api.ErrSchemaForm)
		renames(t, s, name, "x", none, api.ErrSchemaForm)
		renames(t, s, name, name, none, api.ErrSchemaForm)
		renames(t, s, name, "", none, api.ErrSchemaForm)
		finds(t, s, name, placeOf(s, name))
	}
}

// judged asks all calls of a schema and of some names and kinds, against what the test tells itself.
func judged(t *testing.T, s api.Schema, names []string, kinds []int) {
	t.Helper()
	may(t, s, mayBe(s))
	for _, name := range names {
		finds(t, s, name, placeOf(s, name))
		want, e := dropped(s, name)
		drops(t, s, name, want, e)
		for _, kind := range kinds {
			want, e := added(s, name, kind)
			adds(t, s, name, kind, want, e)
		}
		for _, to := range names {
			want, e := renamed(s, name, to)
			renames(t, s, name, to, want, e)
		}
	}
}

// rolls answers numbers that are the same in each run.
func rolls(seed uint64) *rand.Rand {
	return rand.New(rand.NewPCG(seed, 12))
}

// one answers one of some things.
func one[T any](r *rand.Rand, all ...T) T { return all[r.IntN(len(all))] }

// rolledName answers a name that may be, often one of few.
func rolledName(r *rand.Rand) string {
	if r.IntN(2) == 0 {
		return one(r, "a", "b", "c", "a_", "0")
	}
	var s []byte
	for range 1 + r.IntN(16) {
		s = append(s, signs[r.IntN(len(signs))])
	}
	return string(s)
}

// rolled answers a schema that may be, at its edges often.
func rolled(r *rand.Rand) api.Schema {
	s := of(one(r, 0, 1, 7, r.IntN(top), top-1, top), one(r, 14, 300, 14+r.IntN(top-14), top-1, top))
	for range one(r, 1, 2, 1+r.IntN(12), 11, 12) {
		for {
			c := column(one(r, 1, 1+r.IntN(12), 1+r.IntN(s.Next-1), s.Next-1), rolledName(r), one(r, kinds()...))
			if !slices.ContainsFunc(s.Columns, func(o api.Column) bool { return o.Id == c.Id || o.Name == c.Name }) {
				s.Columns = append(s.Columns, c)
				break
			}
		}
	}
	return s
}
