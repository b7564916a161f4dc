package colfile_test

import (
	"math"
	"slices"
	"strings"
	"testing"
	"time"

	"boathouse/api"
	"boathouse/colfile"
)

// P11.1 Get and Stats: which error comes first

// ErrFileSum is told ahead of ErrFileForm: of each bit that is turned, of each cut, and of bytes that are no file at all.
func TestWrongSums(t *testing.T) {
	for _, k := range byHand() {
		for _, body := range []string{k.body, "LK2" + k.body} {
			s := sealed(body)
			for at := range s {
				turned := []byte(s)
				for bit := range 8 {
					turned[at] ^= 1 << bit
					getRefuses(t, "a bit is turned", string(turned), api.ErrFileSum)
					turned[at] ^= 1 << bit
				}
				getRefuses(t, "cut", s[:at], api.ErrFileSum)
				if at > 0 {
					getRefuses(t, "cut ahead", s[at:], api.ErrFileSum)
				}
			}
			getRefuses(t, "more behind", s+"\x00", api.ErrFileSum)
			getRefuses(t, "twice", s+s, api.ErrFileSum)
			getRefuses(t, "no sum", body, api.ErrFileSum)
		}
	}
}

func TestTooShortForASum(t *testing.T) {
	for _, s := range []string{"", "\x00", "\x00\x00", "\x00\x00\x00", "LK1", "\xff\xff\xff", "\x00\x00\x00\x01", "LK1\x00", "\xff\xff\xff\xff"} {
		getRefuses(t, "no sum", s, api.ErrFileSum)
	}
	// Four noughts are the sum of nothing, which is no file.
	getRefuses(t, "nothing", "\x00\x00\x00\x00", api.ErrFileForm)
}

// Too many bytes are no matter of the sum: without theirs they are refused for it all the same.
func TestTooManyBytesWithoutASum(t *testing.T) {
	long := written(ofBytes(t, api.MaxText+1, list{1, api.KindInt, times(1060, num(3))}))
	getRefuses(t, "no sum", long, api.ErrFileSum)
	getRefuses(t, "no sum", strings.Repeat("LK1\x00", api.MaxText), api.ErrFileSum)
	misformed(t, "more than MaxText bytes", long)
	misformed(t, "no file", strings.Repeat("LK1\x00", api.MaxText))
}

// P11.1 Get and Stats: bytes whose sum is right, and that Put does not write

// mixed is the file whose parts the tests below change, one by one.
func mixed() api.Data {
	return file(
		list{1, api.KindInt, values(num(64), null(), num(-7))},
		list{2, api.KindText, values(text("b"), text("a"), null())},
		list{130, api.KindBool, values(truth(true), null(), truth(false))},
	)
}

// other is a change of a file's parts.
type other struct {
	why    string
	change func(l *layout)
}

// refusesEach asks that the file is refused of which one part is another.
func refusesEach(t *testing.T, others []other) {
	t.Helper()
	body := written(mixed())
	thereAndBack(t, mixed())
	for _, o := range others {
		l := layoutOf(mixed())
		o.change(&l)
		if l.body() == body {
			t.Errorf("%+q: nothing was changed", o.why)
		}
		misformed(t, o.why, l.body())
	}
}

// wrongNumbers are the bytes that stand for no number, or for none that a file holds there.
func wrongNumbers(right string, more ...string) []string {
	last := len(right) - 1
	longer := right[:last] + string([]byte{right[last] | 0x80, 0})
	longest := right[:last] + string([]byte{right[last] | 0x80, 0x80, 0})
	return append([]string{
		"", "\x80", "\xff\xff", longer, longest, "\x00" + right, right + "\x00",
		"\xff\xff\xff\xff\xff\xff\xff\xff\xff\x01", "\x80\x80\x80\x80\x80\x80\x80\x80\x80\x01", "\xff\xff\xff\xff\xff\xff\xff\xff\xff\x7f", "\x80\x80\x80\x80\x80\x80\x80\x80\x80\x80\x01",
	}, more...)
}

func TestWrongHeads(t *testing.T) {
	var others []other
	for _, mark := range []string{"", "L", "LK", "LK2", "LK0", "lk1", "Lk1", "1KL", "LK1L", "LK1 ", " LK1", "\x00LK1", "\xef\xbb\xbfLK1", "LK1\x00", "LK1LK1", "LK1\n"} {
		others = append(others, other{"mark " + mark, func(l *layout) { l.mark = mark }})
	}
	for _, rows := range wrongNumbers("\x03", "\x00", "\x01", "\x02", "\x04", "\x83\x01", "\x80\x20", "\x81\x20", "\xff\xff\xff\xff\xff\xff\xff\xff\x7f") {
		others = append(others, other{"rows " + rows, func(l *layout) { l.rows = rows }})
	}
	for _, many := range wrongNumbers("\x03", "\x00", "\x01", "\x02", "\x04", "\x0c", "\x0d", "\x83\x01", "\x80\x20", "\xff\xff\xff\xff\xff\xff\xff\xff\x7f") {
		others = append(others, other{"columns " + many, func(l *layout) { l.many = many }})
	}
	for _, behind := range []string{"\x00", "\x01", "\xff", "LK1", "\x00\x00\x00", written(mixed()), sealed(written(mixed()))} {
		others = append(others, other{"behind " + behind, func(l *layout) { l.behind = behind }})
	}
	refusesEach(t, others)
}

func TestWrongIds(t *testing.T) {
	var others []other
	for at, few := range [][]string{
		{"\x00", "\x02", "\x03", "\x82\x01", "\x83\x01", "\xff\xff\xff\xff\xff\xff\xff\xff\x7f"},
		{"\x00", "\x01", "\x82\x01", "\x83\x01", "\xff\xff\xff\xff\xff\xff\xff\xff\x7f"},
		{"\x00", "\x01", "\x02", "\x82", "\x82\x81\x00"},
	} {
		right := layoutOf(mixed()).columns[at].id
		for _, id := range wrongNumbers(right, few...) {
			others = append(others, other{"id " + id, func(l *layout) { l.columns[at].id = id }})
		}
	}
	refusesEach(t, others)
}

func TestWrongKinds(t *testing.T) {
	var others []other
	for at := range 3 {
		right := layoutOf(mixed()).columns[at].kind
		for kind := range 256 {
			if s := string([]byte{byte(kind)}); s != right {
				others = append(others, other{"kind " + s, func(l *layout) { l.columns[at].kind = s }})
			}
		}
		others = append(others,
			other{"no kind", func(l *layout) { l.columns[at].kind = "" }},
			other{"a kind of two bytes", func(l *layout) { l.columns[at].kind = string([]byte{right[0] | 0x80, 0}) }},
			other{"a nought ahead of the kind", func(l *layout) { l.columns[at].kind = "\x00" + right }},
		)
	}
	refusesEach(t, others)
	// Nulls alone have the same bytes whatever the column's kind is, so each kind that there is makes another file.
	nulls := layoutOf(file(list{1, api.KindInt, times(2, null())}))
	for kind := range 256 {
		nulls.columns[0].kind = string([]byte{byte(kind)})
		if judged(t, nulls.body()) != (kind >= api.KindInt && kind <= api.KindText) {
			t.Errorf("kind %d", kind)
		}
	}
}

func TestWrongLengths(t *testing.T) {
	var others []other
	for at := range 3 {
		right := layoutOf(mixed()).columns[at].length
		less, more := string([]byte{right[0] - 1}), string([]byte{right[0] + 1})
		for _, length := range wrongNumbers(right, "\x00", less, more, "\x7f", "\x80\x80\x04", "\x81\x80\x04", "\xff\xff\xff\xff\xff\xff\xff\xff\x7f", "\xfe\xff\xff\xff\xff\xff\xff\xff\x7f") {
			others = append(others, other{"length " + length, func(l *layout) { l.columns[at].length = length }})
		}
		// All that is left, and one more.
		last := layoutOf(mixed())
		left := len(last.body()) - strings.Index(last.body(), last.columns[at].block)
		others = append(others,
			other{"all that is left", func(l *layout) { l.columns[at].length = number(left) }},
			other{"one more than is left", func(l *layout) { l.columns[at].length = number(left + 1) }},
		)
	}
	refusesEach(t, others)
}

// wrongBlocks are a column's bytes in place of those of mixed's column at a place.
func wrongBlocks(at int) []string {
	d := mixed()
	kind, vs := d.Columns[at].Kind, d.Values[at].V
	right := blockOf(kind, vs)
	inner := right[:len(right)-4]
	all := []string{
		// Bytes without their sum, with a wrong one, with two.
		"", inner, right[:len(right)-1], right[1:], right + "\x00", right + right, sealed(right), inner + "\x00\x00\x00\x00", "\x00\x00\x00\x00",
		// Bytes that layer 9 refuses, though their sum is right.
		sealed(inner + "\x00"), sealed(inner[:len(inner)-1]), sealed("\x03" + inner[1:]), sealed("\x01" + inner[1:]), sealed("\x02" + inner[1:]), sealed("\x00\x83\x00" + inner[2:]), sealed("\x00\x03\xff"), sealed("\x00\x03\x0a" + inner[3:]),
		// Other values than there are rows.
		blockOf(kind, nil), blockOf(kind, vs[:2]), blockOf(kind, vs[:1]), blockOf(kind, append(slices.Clone(vs), vs[0])), blockOf(kind, slices.Repeat(vs, 2)),
		// More values than MaxTable, of one word.
		sealed("\x02\x81\x20" + strings.Repeat("\x00", 513) + "\x01\x00"),
		// Values whose least and greatest are others.
		blockOf(kind, slices.Repeat(values(ofKind(kind)[0]), 3)), blockOf(kind, times(3, null())),
	}
	for _, k := range kinds() {
		if k != kind {
			all = append(all, blockOf(k, times(3, ofKind(k)[1])))
		}
	}
	return all
}

func TestWrongBlocks(t *testing.T) {
	var others []other
	for at := range 3 {
		for _, block := range wrongBlocks(at) {
			others = append(others, other{"a block of the length that is told", func(l *layout) {
				l.columns[at].block, l.columns[at].length = block, number(len(block))
			}})
			if len(block) != len(layoutOf(mixed()).columns[at].block) {
				others = append(others, other{"a block of another length", func(l *layout) { l.columns[at].block = block }})
			}
		}
	}
	long, broken := strings.Repeat("x", 65), "\xff"
	for _, s := range []string{long, broken, "a\xc3"} {
		block := sealed("\x00\x03\x06" + number(len(s)) + s)
		others = append(others, other{"a text that no value may be", func(l *layout) {
			l.columns[1].block, l.columns[1].length = block, number(len(block))
			l.stats[1] = laidStat{"\x02", bound(text(s)), bound(text(s))}
		}})
	}
	refusesEach(t, others)
}

// Columns in another row, too few, too many, with their statistics and without.
func TestWrongRowOfColumns(t *testing.T) {
	var others []other
	for at := range 3 {
		others = append(others,
			other{"a column is missing", func(l *layout) { l.columns = slices.Delete(l.columns, at, at+1) }},
			other{"a column with its statistics is missing, but is counted", func(l *layout) {
				l.columns, l.stats = slices.Delete(l.columns, at, at+1), slices.Delete(l.stats, at, at+1)
			}},
			other{"a column too many", func(l *layout) { l.columns = append(l.columns, l.columns[at]) }},
			other{"a column twice", func(l *layout) {
				l.columns, l.stats = slices.Insert(l.columns, at, l.columns[at]), slices.Insert(l.stats, at, l.stats[at])
				l.many = "\x04"
			}},
			other{"statistics are missing", func(l *layout) { l.stats = slices.Delete(l.stats, at, at+1) }},
			other{"statistics twice", func(l *layout) { l.stats = slices.Insert(l.stats, at, l.stats[at]) }},
		)
		for to := range at {
			others = append(others,
				other{"columns are swapped", func(l *layout) { l.columns[at], l.columns[to] = l.columns[to], l.columns[at] }},
				other{"columns are swapped with their statistics", func(l *layout) {
					l.columns[at], l.columns[to] = l.columns[to], l.columns[at]
					l.stats[at], l.stats[to] = l.stats[to], l.stats[at]
				}},
				other{"statistics are swapped", func(l *layout) { l.stats[at], l.stats[to] = l.stats[to], l.stats[at] }},
			)
		}
	}
	others = append(others,
		other{"no statistics", func(l *layout) { l.stats = nil }},
		other{"no columns", func(l *layout) { l.columns = nil }},
		other{"no columns, no statistics", func(l *layout) { l.columns, l.stats = nil, nil }},
		other{"no columns, as is told", func(l *layout) { l.columns, l.stats, l.many = nil, nil, "\x00" }},
		other{"no columns, no rows", func(l *layout) { l.columns, l.stats, l.many, l.rows = nil, nil, "\x00", "\x00" }},
	)
	refusesEach(t, others)
	// Thirteen columns, fine but for that.
	misformed(t, "thirteen columns", written(ofColumns(api.MaxColumns+1, 2)))
	misformed(t, "thirteen columns of no rows", written(ofColumns(api.MaxColumns+1, 0)))
}

// One more row than MaxTable, all else as it would be written.
func TestOneRowTooMany(t *testing.T) {
	block := sealed("\x02\x81\x20" + strings.Repeat("\x00", 513) + "\x01\x02")
	l := layout{mark: "LK1", rows: "\x81\x20", many: "\x01"}
	l.columns = []laidColumn{{"\x01", "\x01", number(len(block)), block}}
	l.stats = []laidStat{{"\x00", "\x01\x02", "\x01\x02"}}
	misformed(t, "one row too many", l.body())
	most := layoutOf(file(list{1, api.KindInt, times(api.MaxTable, num(1))}))
	if most.rows != "\x80\x20" || most.stats[0] != l.stats[0] || !judged(t, most.body()) {
		t.Errorf("%s", short(most.body()))
	}
}

func TestWrongStatistics(t *testing.T) {
	var others []other
	for at := range 3 {
		for _, nulls := range wrongNumbers("\x01", "\x00", "\x02", "\x03", "\xff\xff\xff\xff\xff\xff\xff\xff\x7f") {
			others = append(others, other{"nulls " + nulls, func(l *layout) { l.stats[at].nulls = nulls }})
		}
		right := layoutOf(mixed()).stats[at]
		bounds := []string{"", "\x00", right.least[:1], right.greatest[:1], right.least + "\x00", right.greatest + "\x00", "\x00" + right.least, "\x00" + right.greatest[1:], "\x04" + right.least[1:], "\xff" + right.greatest[1:]}
		for _, kind := range kinds() {
			for _, v := range ofKind(kind) {
				bounds = append(bounds, bound(v))
			}
		}
		// Numbers and lengths in more bytes than they need, truths that are none, texts that are cut.
		bounds = append(bounds, "\x01\x80\x81\x00", "\x01\x8d\x00", "\x01\x80", "\x01\xff\xff\xff\xff\xff\xff\xff\xff\xff\x02", "\x02\x02", "\x02\xff", "\x03\x81\x00a", "\x03\x81\x00b", "\x03\x02a", "\x03\x02b", "\x03\x00a", "\x03\xff\xff\xff\xff\xff\xff\xff\xff\x7fa")
		for _, s := range bounds {
			if s != right.least {
				others = append(others, other{"least " + s, func(l *layout) { l.stats[at].least = s }})
			}
			if s != right.greatest {
				others = append(others, other{"greatest " + s, func(l *layout) { l.stats[at].greatest = s }})
			}
			others = append(others, other{"both " + s, func(l *layout) { l.stats[at].least, l.stats[at].greatest = s, s }})
		}
		others = append(others, other{"bounds are swapped", func(l *layout) { l.stats[at].least, l.stats[at].greatest = right.greatest, right.least }})
	}
	refusesEach(t, others)
}

// Statistics of columns that have no bounds, told as if they had some.
func TestBoundsOfNulls(t *testing.T) {
	for _, kind := range kinds() {
		for _, rows := range []int{0, 1, 3} {
			for _, s := range []string{"", "\x00\x00", "\x01\x00", "\x02\x00", "\x03\x00", string([]byte{byte(kind)})} {
				for _, change := range []func(b *laidStat){func(b *laidStat) { b.least = s }, func(b *laidStat) { b.greatest = s }, func(b *laidStat) { b.least, b.greatest = s, s }} {
					l := layoutOf(file(list{1, kind, times(rows, null())}))
					change(&l.stats[0])
					misformed(t, "bounds of nulls", l.body())
				}
			}
		}
	}
}

// P11.1 Get and Stats: whatever the bytes are

// Cut at each place, with a byte less, a byte more, bytes behind: all with their sum.
func TestCutAtEachPlace(t *testing.T) {
	for _, k := range byHand() {
		for at := range k.body {
			misformed(t, "cut", k.body[:at])
			judged(t, k.body[:at]+k.body[at+1:])
			judged(t, k.body[:at]+k.body[at:at+1]+k.body[at:])
			judged(t, k.body[:at]+"\x00"+k.body[at:])
			if at > 0 {
				misformed(t, "cut ahead", k.body[at:])
			}
		}
		for b := range 256 {
			misformed(t, "a byte behind", k.body+string([]byte{byte(b)}))
		}
		misformed(t, "twice", k.body+k.body)
		misformed(t, "sealed twice", sealed(k.body))
	}
}

// Each byte turned into each other, with the sum of that: a file only if it would be written so.
func TestEachOtherByte(t *testing.T) {
	fine := 0
	for _, k := range byHand() {
		body := []byte(k.body)
		for at, was := range body {
			for b := range 256 {
				if body[at] = byte(b); body[at] != was && judged(t, string(body)) {
					fine++
				}
			}
			body[at] = was
		}
	}
	// Other Ids that rise as well, and kinds of columns that are null each.
	if fine < 100 {
		t.Errorf("%d files", fine)
	}
}

// Columns' bytes changed within, with their own sum: then layer 9 may take them, but the statistics are others, or not.
func TestOtherBytesWithinBlocks(t *testing.T) {
	fine := 0
	for _, k := range byHand() {
		l := layoutOf(k.d)
		for i, c := range l.columns {
			inner := []byte(c.block[:len(c.block)-4])
			for at, was := range inner {
				for b := range 256 {
					inner[at] = byte(b)
					if l.columns[i].block = sealed(string(inner)); byte(b) != was && judged(t, l.body()) {
						fine++
					}
				}
				inner[at] = was
			}
			l.columns[i].block = c.block
		}
	}
	if fine == 0 {
		t.Error("none was a file")
	}
}

// Files in which several bytes are others, are missing or come again.
func TestRolledBytes(t *testing.T) {
	r := rolls(2)
	for range 20000 {
		body := []byte(written(rolled(r, 6)))
		for range 1 + r.IntN(3) {
			from := r.IntN(len(body) + 1)
			to := min(len(body), from+r.IntN(4))
			piece := make([]byte, r.IntN(4))
			for i := range piece {
				piece[i] = byte(r.IntN(256) >> r.IntN(8))
			}
			body = slices.Replace(body, from, to, piece...)
		}
		judged(t, string(body))
	}
	for range 20000 {
		body := []byte("LK1")
		for range r.IntN(40) {
			body = append(body, byte(r.IntN(256)>>r.IntN(8)))
		}
		judged(t, string(body))
	}
}

// Great numbers where a few bytes stand: what may be asked ends soon.
func TestGreatBytes(t *testing.T) {
	began := time.Now()
	great := number(math.MaxInt)
	inner := strings.Repeat("\x00", api.MaxText)
	for _, body := range []string{
		"LK1" + great + great, "LK1" + "\x80\x20" + great, "LK1" + great + "\x0c", "LK1\x80\x20\x0c" + inner,
		"LK1\x80\x20\x0c\x01\x01" + great + inner, "LK1\x80\x20\x0c\x01\x01" + number(api.MaxText) + inner, "LK1\x80\x20\x01\x01\x01" + number(len(inner)) + inner,
		"LK1\x80\x20\x01\x01\x01" + number(len(inner)+4) + sealed(inner), "LK1" + strings.Repeat("\xff", api.MaxText), strings.Repeat("\xff", api.MaxText),
		"LK1\x80\x20\x01\x01\x01" + number(len(inner)+20) + sealed("\x00\x80\x20"+inner), "LK1\x80\x20\x01\x01\x01" + number(len(inner)+20) + sealed("\x02"+great+inner),
	} {
		misformed(t, "great", body)
		misformed(t, "great", body+strings.Repeat(body, 16))
	}
	for range 200 {
		colfile.Get(sealed(inner))
	}
	if took := time.Since(began); took > 10*time.Second {
		t.Errorf("took %s", took)
	}
}
