package colfile_test

import (
	"math"
	"slices"
	"strconv"
	"strings"
	"testing"
	"time"

	"boathouse/api"
)

// P11.1 Put, Get, Stats, May: ordinary files

// Each file of at most three columns of few rows, out of few values of each kind.
func TestAllSmallFiles(t *testing.T) {
	few := func(kind int) []api.Value { return append(ofKind(kind)[:2:2], null()) }
	for _, shape := range []struct{ columns, rows int }{{1, 0}, {1, 1}, {1, 2}, {1, 3}, {2, 0}, {2, 1}, {2, 2}, {3, 0}, {3, 1}} {
		// As many signs as the file has kinds and values, each of three: all of them are counted through.
		signs := shape.columns * (1 + shape.rows)
		for number := range int(math.Pow(3, float64(signs))) {
			next := func() int {
				sign := number % 3
				number /= 3
				return sign
			}
			var lists []list
			for i := range shape.columns {
				kind := kinds()[next()]
				var vs []api.Value
				for range shape.rows {
					vs = append(vs, few(kind)[next()])
				}
				lists = append(lists, list{2*i + 1, kind, vs})
			}
			thereAndBack(t, file(lists...))
		}
	}
}

func TestRolledFiles(t *testing.T) {
	r := rolls(1)
	for range 1500 {
		thereAndBack(t, rolled(r, 20))
	}
	for range 100 {
		thereAndBack(t, rolled(r, 200))
	}
}

// Each value by its own, among nulls, and as one of several columns.
func TestEachValue(t *testing.T) {
	for _, kind := range kinds() {
		for _, v := range ofKind(kind) {
			thereAndBack(t, file(list{1, kind, values(v)}))
			thereAndBack(t, file(list{1, kind, values(null(), v, null())}))
			thereAndBack(t, file(list{1, kind, times(70, v)}))
			for _, other := range ofKind(kind) {
				thereAndBack(t, file(list{1, api.KindInt, values(num(1), num(2))}, list{2, kind, values(v, other)}, list{3, api.KindBool, truths("10")}))
			}
		}
	}
}

// Fields that a value's kind doesn't name play no part, and come back zero.
func TestFieldsThatTheKindDoesNotName(t *testing.T) {
	for _, kind := range kinds() {
		for _, v := range ofKind(kind) {
			thereAndBack(t, file(list{1, kind, clothed(v)}))
			plain := file(list{1, kind, times(len(clothed(v)), v)})
			puts(t, file(list{1, kind, clothed(v)}), written(plain))
		}
	}
}

// A kind that there is none of is null, whatever its fields hold.
func TestKindsOfValuesThatThereAreNoneOf(t *testing.T) {
	for _, kind := range kinds() {
		v := ofKind(kind)[1]
		for i, odd := range noKinds() {
			none := api.Value{Kind: odd, I: i, B: i%2 == 0, S: []string{"", "a", "\xff", strings.Repeat("x", 65)}[i%4]}
			puts(t, file(list{1, kind, values(none)}), written(file(list{1, kind, values(null())})))
			puts(t, file(list{1, kind, values(none, v, none)}), written(file(list{1, kind, values(null(), v, null())})))
			thereAndBack(t, file(list{1, kind, values(v, none)}, list{2, kind, values(none, none)}))
		}
	}
}

// P11.1 May: rows

// ofRows answers a file of three columns of so many rows.
func ofRows(many int) api.Data {
	return file(list{1, api.KindInt, times(many, num(7))}, list{2, api.KindBool, times(many, truth(true))}, list{3, api.KindText, times(many, text("a"))})
}

func TestMostRows(t *testing.T) {
	for _, many := range []int{0, 1, 127, 128, 255, 256, api.MaxTable - 1, api.MaxTable} {
		thereAndBack(t, ofRows(many))
		for _, kind := range kinds() {
			thereAndBack(t, file(list{1, kind, times(many, ofKind(kind)[0])}))
			thereAndBack(t, file(list{1, kind, times(many, null())}))
		}
	}
	for _, many := range []int{api.MaxTable + 1, 2 * api.MaxTable, api.MaxText, api.MaxText + 1} {
		putRefuses(t, ofRows(many))
		for _, kind := range kinds() {
			putRefuses(t, file(list{1, kind, times(many, ofKind(kind)[0])}))
			putRefuses(t, file(list{1, kind, times(many, null())}))
		}
	}
}

// Rows that are not how many values each column has.
func TestRowsThatAreNotSo(t *testing.T) {
	for _, many := range []int{0, 1, 2, 5, api.MaxTable} {
		for _, rows := range []int{-1, -2, math.MinInt, math.MaxInt, 0, 1, 3, many - 1, many + 1, -many, api.MaxTable + 1, 1<<32 + many, -1<<32 + many, 1<<16 + many} {
			if rows == many {
				continue
			}
			putRefuses(t, changed(ofRows(many), func(d *api.Data) { d.Rows = rows }))
			putRefuses(t, changed(file(list{1, api.KindText, times(many, null())}), func(d *api.Data) { d.Rows = rows }))
		}
	}
}

// One list that is too short, too long or missing.
func TestListsThatAreNotAsLong(t *testing.T) {
	for _, many := range []int{1, 2, 9, api.MaxTable} {
		for at := range 3 {
			for _, vs := range [][]api.Value{nil, {}, times(many-1, null()), times(many+1, null()), times(2*many, null())} {
				putRefuses(t, changed(ofRows(many), func(d *api.Data) { d.Values[at].V = vs }))
			}
		}
	}
	for at := range 3 {
		putRefuses(t, changed(ofRows(0), func(d *api.Data) { d.Values[at].V = times(1, null()) }))
		thereAndBack(t, changed(ofRows(0), func(d *api.Data) { d.Values[at].V = []api.Value{} }))
	}
}

// P11.1 May: columns

// ofColumns answers a file of so many columns, of each kind in turn, with so many rows.
func ofColumns(many int, rows int) api.Data {
	var lists []list
	for i := range many {
		kind := kinds()[i%3]
		lists = append(lists, list{i + 1, kind, times(rows, ofKind(kind)[i%2])})
	}
	return file(lists...)
}

func TestMostColumns(t *testing.T) {
	for many := 1; many <= api.MaxColumns+1; many++ {
		for _, rows := range []int{0, 1, 5} {
			if many > api.MaxColumns {
				putRefuses(t, ofColumns(many, rows))
				continue
			}
			thereAndBack(t, ofColumns(many, rows))
		}
	}
	putRefuses(t, ofColumns(2*api.MaxColumns, 0))
	putRefuses(t, ofColumns(api.MaxText, 0))
}

func TestNoColumns(t *testing.T) {
	for _, rows := range []int{0, 1, -1, api.MaxTable, api.MaxTable + 1} {
		putRefuses(t, api.Data{Rows: rows})
		putRefuses(t, api.Data{Rows: rows, Columns: []api.Column{}, Values: []api.Row{}})
		putRefuses(t, api.Data{Rows: rows, Values: []api.Row{{}}})
		putRefuses(t, api.Data{Rows: rows, Columns: []api.Column{{Id: 1, Kind: api.KindInt}}})
	}
}

// Fewer lists than columns, and more.
func TestListsThatAreNotAsMany(t *testing.T) {
	for _, rows := range []int{0, 1} {
		for many := 1; many <= api.MaxColumns; many++ {
			d := ofColumns(many, rows)
			more := api.Row{V: times(rows, null())}
			putRefuses(t, changed(d, func(d *api.Data) { d.Values = d.Values[:many-1] }))
			putRefuses(t, changed(d, func(d *api.Data) { d.Values = append(d.Values, more) }))
			putRefuses(t, changed(d, func(d *api.Data) { d.Columns = d.Columns[:many-1] }))
			putRefuses(t, changed(d, func(d *api.Data) { d.Values = nil }))
			putRefuses(t, changed(d, func(d *api.Data) { d.Columns = nil }))
			putRefuses(t, changed(d, func(d *api.Data) { d.Values = slices.Repeat(d.Values, 2) }))
		}
	}
}

func TestIds(t *testing.T) {
	ids := func(ids ...int) api.Data {
		var lists []list
		for _, id := range ids {
			lists = append(lists, list{id, api.KindInt, values(num(3))})
		}
		return file(lists...)
	}
	for _, all := range [][]int{
		{1}, {2}, {127}, {128}, {1 << 16}, {1 << 32}, {math.MaxInt - 1}, {math.MaxInt},
		{1, 2}, {1, 3}, {7, 8}, {1, math.MaxInt}, {math.MaxInt - 1, math.MaxInt}, {1, 2, 3}, {5, 1 << 31, 1 << 32, 1<<32 + 1, 1 << 62},
	} {
		thereAndBack(t, ids(all...))
	}
	for _, all := range [][]int{
		{0}, {-1}, {-2}, {math.MinInt}, {math.MinInt + 1}, {-1 << 32}, {-1<<32 + 1},
		{0, 1}, {-1, 1}, {-2, -1}, {math.MinInt, 1}, {1, 0}, {1, -1}, {1, math.MinInt},
		{1, 1}, {2, 1}, {3, 3}, {math.MaxInt, math.MaxInt}, {math.MaxInt, math.MinInt}, {math.MaxInt, 1}, {1 << 32, 1}, {1<<32 + 1, 2},
		{1, 2, 2}, {1, 3, 2}, {2, 1, 3}, {1, 1, 2}, {3, 4, 1}, {1, 2, 0}, {1, 0, 2},
	} {
		putRefuses(t, ids(all...))
	}
}

// Each column of twelve with an Id that is its neighbour's, or none.
func TestIdsAtEachPlace(t *testing.T) {
	d := ofColumns(api.MaxColumns, 1)
	for at := range api.MaxColumns {
		for _, id := range []int{0, -1, math.MinInt, at, at + 2} {
			if id == api.MaxColumns+1 {
				continue
			}
			putRefuses(t, changed(d, func(d *api.Data) { d.Columns[at].Id = id }))
		}
	}
	thereAndBack(t, changed(d, func(d *api.Data) { d.Columns[api.MaxColumns-1].Id = api.MaxColumns + 1 }))
}

func TestNames(t *testing.T) {
	for at := range api.MaxColumns {
		for _, name := range []string{"a", " ", "\x00", "\xff", "id", strings.Repeat("n", api.MaxName), strings.Repeat("n", api.MaxText)} {
			putRefuses(t, changed(ofColumns(api.MaxColumns, 1), func(d *api.Data) { d.Columns[at].Name = name }))
			putRefuses(t, changed(ofColumns(api.MaxColumns, 0), func(d *api.Data) { d.Columns[at].Name = name }))
		}
	}
}

func TestKindsOfColumns(t *testing.T) {
	for _, kind := range append(noKinds(), api.KindNull) {
		for _, rows := range []int{0, 1} {
			putRefuses(t, file(list{1, kind, times(rows, null())}))
			putRefuses(t, file(list{1, kind, times(rows, num(1))}))
			putRefuses(t, file(list{1, kind, times(rows, api.Value{Kind: kind, I: 1})}))
			for at := range 3 {
				putRefuses(t, changed(ofRows(rows), func(d *api.Data) { d.Columns[at].Kind = kind }))
			}
		}
	}
}

// P11.1 May: values

// placed asks that a file is refused whose values of one column are fine but for one, wherever it stands.
func placed(t *testing.T, kind int, wrong api.Value) {
	t.Helper()
	fine := ofKind(kind)[1]
	for column := range 3 {
		for at := range 4 {
			d := file(list{1, kind, times(4, fine)}, list{2, kind, times(4, null())}, list{5, kind, times(4, fine)})
			d.Values[column].V[at] = wrong
			putRefuses(t, d)
		}
	}
	putRefuses(t, file(list{1, kind, values(wrong)}))
}

func TestValuesOfAnotherKind(t *testing.T) {
	for _, kind := range kinds() {
		for _, other := range kinds() {
			if other == kind {
				continue
			}
			placed(t, kind, ofKind(other)[0])
			for _, v := range clothed(ofKind(other)[1]) {
				placed(t, kind, v)
			}
		}
	}
}

func TestTexts(t *testing.T) {
	for _, s := range []string{strings.Repeat("x", 64), strings.Repeat("é", 32), strings.Repeat("日", 21), strings.Repeat("\U0001f600", 16), "\x00", "\ufffd", "\ud7ff\ue000\U0010ffff"} {
		thereAndBack(t, file(list{1, api.KindText, texts(s)}))
		thereAndBack(t, file(list{1, api.KindText, texts("a", s)}))
	}
	for _, s := range []string{
		strings.Repeat("x", 65), strings.Repeat("é", 33), strings.Repeat("日", 22), strings.Repeat("x", api.MaxText), strings.Repeat("x", 64) + "\xff",
		"\xff", "\x80", "a\xc3", "\xc0\x80", "\xed\xa0\x80", "\xf4\x90\x80\x80", "\xe6\x97", "\xf0\x9f\x98",
	} {
		placed(t, api.KindText, text(s))
	}
}

// P11.1 Put: how many bytes

// unlike answers so many texts of 60 bytes, each a word of its own, the least and the greatest at the ends.
func unlike(many int) []api.Value {
	var vs []api.Value
	for i := range many {
		vs = append(vs, text(strconv.Itoa(10000+i)+strings.Repeat("x", 55)))
	}
	return vs
}

// ofBytes answers a file whose text has so many bytes: of columns ahead of one of texts, which is filled up.
func ofBytes(t *testing.T, size int, ahead ...list) api.Data {
	t.Helper()
	rows := len(ahead[0].vs)
	vs := unlike(rows)
	d := file(append(slices.Clone(ahead), list{900, api.KindText, vs})...)
	missing := size - len(sealed(written(d)))
	for at := 1; at < rows-1; at++ {
		length := min(max(60+missing, 5), api.MaxValue)
		missing -= length - 60
		vs[at].S = (vs[at].S + "xxxx")[:length]
	}
	if len(sealed(written(d))) != size {
		t.Fatalf("%d bytes, not %d", len(sealed(written(d))), size)
	}
	return d
}

func TestMostBytes(t *testing.T) {
	for _, ahead := range [][]list{
		{{1, api.KindInt, times(1060, num(3))}},
		{{1, api.KindBool, times(1060, truth(true))}, {2, api.KindInt, times(1060, null())}},
		{{7, api.KindText, times(1050, text("a"))}, {800, api.KindInt, slices.Concat(times(500, num(1)), times(550, num(2)))}},
	} {
		for _, size := range []int{api.MaxText - 5, api.MaxText - 4, api.MaxText - 3, api.MaxText - 1, api.MaxText} {
			thereAndBack(t, ofBytes(t, size, ahead...))
		}
		for _, size := range []int{api.MaxText + 1, api.MaxText + 2, api.MaxText + 4, api.MaxText + 5, api.MaxText + 1000} {
			d := ofBytes(t, size, ahead...)
			tooLong(t, d)
			misformed(t, "more than MaxText bytes", written(d))
		}
	}
}

// Twelve columns of MaxTable rows each: what may be asked ends soon, whether there may be such a text or not.
func TestGreatestFiles(t *testing.T) {
	began := time.Now()
	var short, long []list
	for i := range api.MaxColumns {
		var few, many []api.Value
		for row := range api.MaxTable {
			few = append(few, truth(row%(i+2) == 0))
			many = append(many, text(strconv.Itoa(10000+row)+strings.Repeat("é", 29)))
		}
		short = append(short, list{i + 1, api.KindBool, few})
		long = append(long, list{i + 1, api.KindText, many})
	}
	thereAndBack(t, file(short...))
	tooLong(t, file(long...))
	misformed(t, "too many bytes by far", written(file(long...)))
	var numbers []api.Value
	for row := range api.MaxTable {
		numbers = append(numbers, num(row*row*row<<20))
	}
	thereAndBack(t, file(list{1, api.KindInt, numbers}, list{2, api.KindBool, short[0].vs}))
	if took := time.Since(began); took > 20*time.Second {
		t.Errorf("took %s", took)
	}
}
