package objstore_test

import (
	"math"
	"slices"
	"strconv"
	"strings"
	"testing"

	"boathouse/api"
	"boathouse/objstore"
)

// made answers a store that must come to be.
func made(t *testing.T, most int) *objstore.Store {
	t.Helper()
	s, e := objstore.New(most)
	if s == nil || e != api.OK {
		t.Fatalf("New(%d): %v, %d", most, s, e)
	}
	return s
}

// put puts what must go in.
func put(t *testing.T, s *objstore.Store, key string, data string, time int) {
	t.Helper()
	if e := s.Put(key, data, time); e != api.OK {
		t.Fatalf("Put(%q): %d", key, e)
	}
}

// fail gives an order that must be taken.
func fail(t *testing.T, s *objstore.Store, many int) {
	t.Helper()
	if e := s.Fail(many); e != api.OK {
		t.Fatalf("Fail(%d): %d", many, e)
	}
}

// holds asks for all that the store holds, by All and by List.
func holds(t *testing.T, s *objstore.Store, want ...api.Object) {
	t.Helper()
	if all := s.All(); !slices.Equal(all, want) {
		t.Errorf("All: %v, not %v", brief(all), brief(want))
	}
	lists(t, s, "", want...)
}

// lists asks for what a List tells of the objects that are wanted.
func lists(t *testing.T, s *objstore.Store, prefix string, want ...api.Object) {
	t.Helper()
	bare := slices.Clone(want)
	for i := range bare {
		bare[i].Data = ""
	}
	if os, e := s.List(prefix); e != api.OK || !slices.Equal(os, bare) {
		t.Errorf("List(%q): %v, %d, not %v", prefix, brief(os), e, brief(bare))
	}
}

// brief is what a failing test tells of objects that may be long.
func brief(os []api.Object) []string {
	var told []string
	for _, o := range os[:min(len(os), 8)] {
		told = append(told, strconv.Quote(o.Key)+" "+strconv.Quote(o.Data[:min(len(o.Data), 8)])+" "+strconv.Itoa(o.Time))
	}
	return told
}

// owes counts how many calls the store fails in a row, up to a bound.
func owes(s *objstore.Store, bound int) int {
	for n := range bound {
		if _, e := s.Get("none"); e != api.ErrStoreFails {
			return n
		}
	}
	return bound
}

// P1.1 New

func TestNewRefusesOtherSizes(t *testing.T) {
	for _, most := range []int{0, -1, math.MinInt, api.MaxObjects + 1, math.MaxInt} {
		if s, e := objstore.New(most); s != nil || e != api.ErrStoreForm {
			t.Errorf("New(%d): %v, %d", most, s, e)
		}
	}
}

func TestNewIsEmpty(t *testing.T) {
	for _, most := range []int{1, 2, api.MaxObjects - 1, api.MaxObjects} {
		s := made(t, most)
		if s.Calls() != 0 {
			t.Errorf("New(%d): %d calls", most, s.Calls())
		}
		holds(t, s)
		if n := owes(s, 3); n != 0 {
			t.Errorf("New(%d): owes %d", most, n)
		}
	}
}

func TestStoresStandApart(t *testing.T) {
	a, b := made(t, 4), made(t, 4)
	put(t, a, "k", "a", 1)
	fail(t, a, 2)
	holds(t, b)
	if b.Calls() != 1 || a.Calls() != 1 {
		t.Errorf("calls: %d, %d", a.Calls(), b.Calls())
	}
	if n := owes(a, 9); n != 2 {
		t.Errorf("owes %d", n)
	}
}

// P1.1 Put

func TestPutKeyLengths(t *testing.T) {
	for _, c := range []struct {
		long int
		code api.Errno
	}{
		{0, api.ErrStoreForm}, {1, api.OK}, {2, api.OK}, {api.MaxKey - 1, api.OK}, {api.MaxKey, api.OK},
		{api.MaxKey + 1, api.ErrStoreForm}, {2 * api.MaxKey, api.ErrStoreForm}, {api.MaxText, api.ErrStoreForm},
	} {
		s := made(t, 2)
		key := strings.Repeat("k", c.long)
		if e := s.Put(key, "d", 3); e != c.code {
			t.Errorf("a key of %d bytes: %d", c.long, e)
		}
		if c.code == api.OK {
			holds(t, s, api.Object{Key: key, Data: "d", Time: 3})
		} else {
			holds(t, s)
		}
	}
}

func TestPutKeyBytes(t *testing.T) {
	for b := range 256 {
		one := string([]byte{byte(b)})
		code := api.ErrStoreForm
		if b >= 33 && b <= 126 {
			code = api.OK
		}
		for _, key := range []string{one, one + "ab", "a" + one + "b", "ab" + one, strings.Repeat("k", api.MaxKey-1) + one} {
			s := made(t, 2)
			if e := s.Put(key, "", 0); e != code {
				t.Errorf("Put(%q): %d", key, e)
			}
			if d, e := s.Get(key); d != "" || (e == api.OK) != (code == api.OK) {
				t.Errorf("Get(%q): %q, %d", key, d, e)
			}
		}
	}
}

func TestPutDataLengths(t *testing.T) {
	for _, c := range []struct {
		long int
		code api.Errno
	}{
		{0, api.OK}, {1, api.OK}, {api.MaxText - 1, api.OK}, {api.MaxText, api.OK},
		{api.MaxText + 1, api.ErrStoreForm}, {2 * api.MaxText, api.ErrStoreForm},
	} {
		s := made(t, 1)
		data := strings.Repeat("x", c.long)
		if e := s.Put("k", data, 0); e != c.code {
			t.Errorf("data of %d bytes: %d", c.long, e)
		}
		if c.code == api.OK {
			holds(t, s, api.Object{Key: "k", Data: data})
		} else {
			holds(t, s)
		}
	}
}

func TestPutTimes(t *testing.T) {
	for _, time := range []int{0, 1, 1 << 40, math.MaxInt} {
		s := made(t, 1)
		put(t, s, "k", "d", time)
		holds(t, s, api.Object{Key: "k", Data: "d", Time: time})
	}
	for _, time := range []int{-1, -2, math.MinInt} {
		s := made(t, 1)
		if e := s.Put("k", "d", time); e != api.ErrStoreForm {
			t.Errorf("time %d: %d", time, e)
		}
		holds(t, s)
	}
}

func TestPutKeepsTheElder(t *testing.T) {
	s := made(t, 3)
	put(t, s, "k", "old", 7)
	for _, data := range []string{"new", "old", ""} {
		if e := s.Put("k", data, 8); e != api.ErrStoreExists {
			t.Errorf("Put again of %q: %d", data, e)
		}
	}
	holds(t, s, api.Object{Key: "k", Data: "old", Time: 7})
	if e := s.Delete("k"); e != api.OK {
		t.Errorf("Delete: %d", e)
	}
	put(t, s, "k", "new", 2)
	holds(t, s, api.Object{Key: "k", Data: "new", Time: 2})
}

func TestPutFull(t *testing.T) {
	for _, most := range []int{1, 2, 5, api.MaxObjects} {
		s := made(t, most)
		for i := range most {
			put(t, s, "k"+strconv.Itoa(i), "", i)
		}
		if e := s.Put("x", "", 0); e != api.ErrStoreFull {
			t.Errorf("most %d: %d", most, e)
		}
		if n := len(s.All()); n != most {
			t.Errorf("most %d: %d objects", most, n)
		}
		if e := s.Delete("k0"); e != api.OK {
			t.Errorf("most %d: %d", most, e)
		}
		put(t, s, "x", "", 0)
		if e := s.Put("y", "", 0); e != api.ErrStoreFull {
			t.Errorf("most %d: %d", most, e)
		}
	}
}

// R6: ErrStoreFails, ErrStoreForm, ErrStoreExists, ErrStoreFull, in this row.
func TestPutTellsTheFirstError(t *testing.T) {
	long := strings.Repeat("x", api.MaxText+1)
	for _, c := range []struct {
		key, data string
		time      int
		code      api.Errno
	}{
		{"there", "", -1, api.ErrStoreForm}, {"there", long, 0, api.ErrStoreForm}, {"there", "", 0, api.ErrStoreExists},
		{"", "", 0, api.ErrStoreForm}, {"new", long, 0, api.ErrStoreForm}, {"new", "", -1, api.ErrStoreForm},
		{"", long, -1, api.ErrStoreForm}, {"new", "", 0, api.ErrStoreFull},
	} {
		full := made(t, 1)
		put(t, full, "there", "d", 4)
		fail(t, full, 1)
		if e := full.Put(c.key, c.data, c.time); e != api.ErrStoreFails {
			t.Errorf("Put(%q, %d bytes, %d): %d ahead of the failure", c.key, len(c.data), c.time, e)
		}
		if e := full.Put(c.key, c.data, c.time); e != c.code {
			t.Errorf("Put(%q, %d bytes, %d): %d", c.key, len(c.data), c.time, e)
		}
		holds(t, full, api.Object{Key: "there", Data: "d", Time: 4})
	}
}

// P1.1 Get

func TestGet(t *testing.T) {
	every := make([]byte, 256)
	for i := range every {
		every[i] = byte(i)
	}
	s := made(t, 4)
	put(t, s, "b", string(every), 1)
	put(t, s, "a", "", 2)
	put(t, s, "bb", "\xff\x00\xc3", 3)
	for key, want := range map[string]string{"b": string(every), "a": "", "bb": "\xff\x00\xc3"} {
		for range 2 {
			if d, e := s.Get(key); d != want || e != api.OK {
				t.Errorf("Get(%q): %q, %d", key, d, e)
			}
		}
	}
	for _, key := range []string{"", "c", "A", "bbb", "a ", "\x00", "\xff", strings.Repeat("b", api.MaxKey+1)} {
		if d, e := s.Get(key); d != "" || e != api.ErrStoreNone {
			t.Errorf("Get(%q): %q, %d", key, d, e)
		}
	}
}

// P1.1 List

func TestListByPrefix(t *testing.T) {
	rising := []api.Object{
		{Key: "!", Data: "0", Time: 9}, {Key: "A", Data: "1", Time: 8}, {Key: "a", Data: "2", Time: 7}, {Key: "a!", Data: "3", Time: 6},
		{Key: "aa", Data: "4", Time: 5}, {Key: "ab", Data: "5", Time: 4}, {Key: "a~", Data: "6", Time: 3}, {Key: "ba", Data: "7", Time: 2},
		{Key: "~", Data: "8", Time: 1}, {Key: "~~", Data: "9", Time: 0},
	}
	for shift := range rising {
		s := made(t, api.MaxObjects)
		for i := range rising {
			o := rising[(i*7+shift)%len(rising)]
			put(t, s, o.Key, o.Data, o.Time)
		}
		holds(t, s, rising...)
		lists(t, s, "a", rising[2:7]...)
		lists(t, s, "A", rising[1])
		lists(t, s, "aa", rising[4])
		lists(t, s, "b", rising[7])
		lists(t, s, "~", rising[8:]...)
		lists(t, s, "~~", rising[9])
		for _, prefix := range []string{"B", "aab", "\"", " ", "\x7f", "\xff", "\x00", "a\x00", "~~~", strings.Repeat("a", api.MaxText)} {
			lists(t, s, prefix)
		}
	}
}

func TestListOfLongestKeys(t *testing.T) {
	s := made(t, 2)
	key := strings.Repeat("~", api.MaxKey)
	put(t, s, key, "d", 1)
	for _, long := range []int{0, 1, api.MaxKey - 1, api.MaxKey} {
		lists(t, s, key[:long], api.Object{Key: key, Time: 1})
	}
	lists(t, s, key+"~")
}

// P1.1 Delete

func TestDelete(t *testing.T) {
	keys := []string{"a", "aa", "ab", "b"}
	for gone := range keys {
		s := made(t, 4)
		var left []api.Object
		for i, key := range keys {
			put(t, s, key, "data of "+key, i)
			if i != gone {
				left = append(left, api.Object{Key: key, Data: "data of " + key, Time: i})
			}
		}
		for _, key := range []string{"", "aaa", "A", "c", "a b", strings.Repeat("a", api.MaxKey+1)} {
			if e := s.Delete(key); e != api.ErrStoreNone {
				t.Errorf("Delete(%q): %d", key, e)
			}
		}
		if e := s.Delete(keys[gone]); e != api.OK {
			t.Errorf("Delete(%q): %d", keys[gone], e)
		}
		if e := s.Delete(keys[gone]); e != api.ErrStoreNone {
			t.Errorf("Delete(%q) again: %d", keys[gone], e)
		}
		if d, e := s.Get(keys[gone]); d != "" || e != api.ErrStoreNone {
			t.Errorf("Get(%q) behind it: %q, %d", keys[gone], d, e)
		}
		holds(t, s, left...)
	}
}

// P1.2 Fail

func TestFailEachCall(t *testing.T) {
	s := made(t, 2)
	put(t, s, "k", "d", 1)
	calls := map[string]func() api.Errno{
		"Put":           func() api.Errno { return s.Put("new", "d", 1) },
		"Put of a form": func() api.Errno { return s.Put("", "d", -1) },
		"Put again":     func() api.Errno { return s.Put("k", "e", 2) },
		"Get": func() api.Errno {
			d, e := s.Get("k")
			if d != "" {
				t.Errorf("Get: %q beside %d", d, e)
			}
			return e
		},
		"Get of none": func() api.Errno { _, e := s.Get("none"); return e },
		"List": func() api.Errno {
			os, e := s.List("")
			if len(os) != 0 {
				t.Errorf("List: %v beside %d", os, e)
			}
			return e
		},
		"Delete":         func() api.Errno { return s.Delete("k") },
		"Delete of none": func() api.Errno { return s.Delete("none") },
	}
	for name, call := range calls {
		fail(t, s, 3)
		for i := range 2 {
			before := s.Calls()
			if e := call(); e != api.ErrStoreFails || s.Calls() != before+1 {
				t.Errorf("%s, failure %d: %d, %d calls more", name, i, e, s.Calls()-before)
			}
		}
		if n := owes(s, 9); n != 1 {
			t.Errorf("%s: %d failures left of 3, not 1", name, n)
		}
		holds(t, s, api.Object{Key: "k", Data: "d", Time: 1})
	}
}

func TestFailMany(t *testing.T) {
	s := made(t, 1)
	for _, many := range []int{0, 1, 2, 3, 64, api.MaxObjects, 1 << 17} {
		fail(t, s, many)
		if n := owes(s, many+1); n != many {
			t.Errorf("Fail(%d): %d failed", many, n)
		}
		if n := owes(s, 3); n != 0 {
			t.Errorf("Fail(%d): %d more failed behind it", many, n)
		}
	}
}

func TestFailReplacesTheElderOrder(t *testing.T) {
	for _, c := range [][2]int{{5, 2}, {2, 5}, {3, 3}, {4, 0}, {0, 4}, {math.MaxInt, 1}, {0, 0}} {
		s := made(t, 1)
		fail(t, s, c[0])
		fail(t, s, c[1])
		if n := owes(s, 20); n != c[1] {
			t.Errorf("Fail(%d), Fail(%d): %d failed", c[0], c[1], n)
		}
	}
	s := made(t, 1)
	fail(t, s, 5)
	if n := owes(s, 2); n != 2 {
		t.Errorf("%d failed", n)
	}
	fail(t, s, 4)
	if n := owes(s, 20); n != 4 {
		t.Errorf("Fail(4) behind two of five: %d failed", n)
	}
}

func TestFailRefusesLessThanNone(t *testing.T) {
	for _, many := range []int{-1, -2, math.MinInt} {
		s := made(t, 1)
		fail(t, s, 3)
		if e := s.Fail(many); e != api.ErrStoreForm {
			t.Errorf("Fail(%d): %d", many, e)
		}
		if n := owes(s, 20); n != 3 {
			t.Errorf("Fail(%d): the elder order of 3 failed %d", many, n)
		}
	}
}

func TestFailOfAnySizeEnds(t *testing.T) {
	for _, many := range []int{1 << 40, math.MaxInt} {
		s := made(t, 2)
		put(t, s, "k", "d", 1)
		fail(t, s, many)
		o := s.Copy()
		if n := owes(s, 1000); n != 1000 {
			t.Errorf("Fail(%d): %d failed", many, n)
		}
		if n := owes(o, 1000); n != 1000 {
			t.Errorf("Fail(%d): %d failed of the copy", many, n)
		}
		fail(t, s, 0)
		holds(t, s, api.Object{Key: "k", Data: "d", Time: 1})
	}
}

// What is not counted takes no failure away either.
func TestFailSparesTheUncounted(t *testing.T) {
	s := made(t, 2)
	put(t, s, "k", "d", 1)
	fail(t, s, 3)
	for range 5 {
		if all := s.All(); !slices.Equal(all, []api.Object{{Key: "k", Data: "d", Time: 1}}) {
			t.Errorf("All: %v", all)
		}
		if s.Calls() != 1 {
			t.Errorf("Calls: %d", s.Calls())
		}
		if s.Copy() == nil {
			t.Error("Copy: nil")
		}
		s.Fail(-1)
	}
	if n := owes(s, 20); n != 3 {
		t.Errorf("%d failed", n)
	}
}

// P1.2 All

func TestAll(t *testing.T) {
	s := made(t, 3)
	if all := s.All(); len(all) != 0 {
		t.Errorf("All of an empty one: %v", all)
	}
	long := strings.Repeat("x", api.MaxText)
	put(t, s, "c", "3", 1)
	put(t, s, "a", long, 3)
	put(t, s, "b", "", 2)
	holds(t, s, api.Object{Key: "a", Data: long, Time: 3}, api.Object{Key: "b", Time: 2}, api.Object{Key: "c", Data: "3", Time: 1})
}

// P1.2 Calls

func TestCallsCounted(t *testing.T) {
	s := made(t, 1)
	for i, c := range []struct {
		name string
		call func()
		more int
	}{
		{"Put", func() { s.Put("k", "d", 1) }, 1},
		{"Put again", func() { s.Put("k", "d", 1) }, 1},
		{"Put of a full one", func() { s.Put("l", "d", 1) }, 1},
		{"Put of no key", func() { s.Put("", "d", 1) }, 1},
		{"Put of no time", func() { s.Put("m", "d", -1) }, 1},
		{"Get", func() { s.Get("k") }, 1},
		{"Get of none", func() { s.Get("l") }, 1},
		{"List", func() { s.List("") }, 1},
		{"List of none", func() { s.List("x") }, 1},
		{"Delete of none", func() { s.Delete("l") }, 1},
		{"Delete", func() { s.Delete("k") }, 1},
		{"All", func() { s.All() }, 0},
		{"Calls", func() { s.Calls() }, 0},
		{"Copy", func() { s.Copy().Get("k") }, 0},
		{"New", func() { objstore.New(1) }, 0},
		{"Fail refused", func() { s.Fail(-1) }, 0},
		{"Fail", func() { s.Fail(4) }, 0},
		{"Put failed", func() { s.Put("k", "d", 1) }, 1},
		{"Get failed", func() { s.Get("k") }, 1},
		{"List failed", func() { s.List("") }, 1},
		{"Delete failed", func() { s.Delete("k") }, 1},
	} {
		before := s.Calls()
		c.call()
		if more := s.Calls() - before; more != c.more {
			t.Errorf("call %d, %s: %d more", i, c.name, more)
		}
	}
	if s.Calls() != 15 {
		t.Errorf("%d calls", s.Calls())
	}
}

// P1.2 Copy

func TestCopyStandsAsTheFirst(t *testing.T) {
	s := made(t, 2)
	put(t, s, "b", "2", 5)
	put(t, s, "a", "1", 6)
	fail(t, s, 3)
	owes(s, 1)
	for _, o := range []*objstore.Store{s.Copy(), s.Copy().Copy()} {
		if o.Calls() != 3 {
			t.Errorf("%d calls", o.Calls())
		}
		if n := owes(o, 20); n != 2 {
			t.Errorf("owes %d", n)
		}
		holds(t, o, api.Object{Key: "a", Data: "1", Time: 6}, api.Object{Key: "b", Data: "2", Time: 5})
		if e := o.Put("c", "", 0); e != api.ErrStoreFull {
			t.Errorf("Put into the copy of a full one: %d", e)
		}
	}
	if n := owes(s, 20); n != 2 {
		t.Errorf("behind its copies, owes %d", n)
	}
}

func TestCopiesGoTheirOwnWay(t *testing.T) {
	changes := map[string]func(s *objstore.Store) api.Errno{
		"Delete of the first": func(s *objstore.Store) api.Errno { return s.Delete("k00") },
		"Put ahead of all":    func(s *objstore.Store) api.Errno { return s.Put("a", "new", 99) },
		"Put behind all":      func(s *objstore.Store) api.Errno { return s.Put("z", "new", 99) },
		"Delete and Put anew": func(s *objstore.Store) api.Errno { return s.Delete("k00") + s.Put("k00", "new", 99) },
	}
	// Of many sizes, so that some have spare room and some have none.
	for size := 1; size <= 20; size++ {
		for name, change := range changes {
			for _, swap := range []bool{false, true} {
				s := made(t, 40)
				for i := range size {
					put(t, s, "k"+strconv.Itoa(100 + i)[1:], "old", i)
				}
				before := s.All()
				o := s.Copy()
				if swap {
					s, o = o, s
				}
				if e := change(o); e != api.OK {
					t.Errorf("%s of %d: %d", name, size, e)
				}
				holds(t, s, before...)
				changed := o.All()
				if slices.Equal(changed, before) {
					t.Errorf("%s of %d: nothing changed", name, size)
				}
				put(t, s, "m", "other", 50)
				holds(t, o, changed...)
			}
		}
	}
}

func TestCopiesCountForThemselves(t *testing.T) {
	s := made(t, 2)
	fail(t, s, 2)
	o := s.Copy()
	if n := owes(o, 1); n != 1 || s.Calls() != 0 || o.Calls() != 1 {
		t.Errorf("%d failed, calls %d, %d", n, s.Calls(), o.Calls())
	}
	fail(t, o, 5)
	if n := owes(s, 20); n != 2 {
		t.Errorf("the first owes %d", n)
	}
	fail(t, s, 1)
	if n := owes(o, 20); n != 5 {
		t.Errorf("the copy owes %d", n)
	}
	if n := owes(s, 20); n != 1 {
		t.Errorf("the first owes %d", n)
	}
}

// R4

func TestAnswersAreNewMemory(t *testing.T) {
	s := made(t, 8)
	want := []api.Object{{Key: "a", Data: "1", Time: 1}, {Key: "b", Data: "2", Time: 2}, {Key: "c", Data: "3", Time: 3}}
	for _, o := range want {
		put(t, s, o.Key, o.Data, o.Time)
	}
	listed, _ := s.List("")
	other, _ := s.List("")
	all, more := s.All(), s.All()
	for _, answer := range [][]api.Object{listed, all} {
		answer = answer[:cap(answer)]
		for i := range answer {
			answer[i] = api.Object{Key: "x", Data: "x", Time: 99}
		}
	}
	if !slices.Equal(more, want) || other[0] != (api.Object{Key: "a", Time: 1}) || other[2] != (api.Object{Key: "c", Time: 3}) {
		t.Errorf("%v, %v", other, more)
	}
	holds(t, s, want...)
	if e := s.Delete("a"); e != api.OK {
		t.Errorf("Delete: %d", e)
	}
	put(t, s, "d", "4", 4)
	if !slices.Equal(more, want) || other[0].Key != "a" || other[2].Key != "c" {
		t.Errorf("behind a Delete and a Put: %v, %v", other, more)
	}
}

// R3, R1

func TestNilStore(t *testing.T) {
	var s *objstore.Store
	d, got := s.Get("k")
	os, listed := s.List("")
	if d != "" || len(os) != 0 {
		t.Errorf("%q, %v", d, os)
	}
	for name, e := range map[string]api.Errno{
		"Put": s.Put("k", "d", 0), "Put of a form": s.Put("", "", -1), "Get": got, "List": listed,
		"Delete": s.Delete("k"), "Fail": s.Fail(1), "Fail of a form": s.Fail(-1),
	} {
		if e != api.ErrNil {
			t.Errorf("%s: %d", name, e)
		}
	}
	if len(s.All()) != 0 || s.Calls() != 0 || s.Copy() != nil {
		t.Error("All, Calls or Copy of nil")
	}
}

// One that New did not make has room for nothing, but neither panics nor hangs.
func TestZeroStore(t *testing.T) {
	s := new(objstore.Store)
	if e := s.Put("k", "d", 0); e != api.ErrStoreFull {
		t.Errorf("Put: %d", e)
	}
	fail(t, s, 2)
	if n := owes(s.Copy(), 9); n != 2 {
		t.Errorf("owes %d", n)
	}
	if n := owes(s, 9); n != 2 || s.Delete("k") != api.ErrStoreNone {
		t.Errorf("owes %d", n)
	}
	holds(t, s)
}

// All of P1.1 and P1.2 at once: a long row of calls beside the plainest store there is.

type plain struct {
	most, calls, owed int
	objects           map[string]api.Object
}

func (p *plain) enter() bool {
	p.calls++
	if p.owed > 0 {
		p.owed--
		return false
	}
	return true
}

func (p *plain) put(key, data string, time int) api.Errno {
	_, there := p.objects[key]
	switch {
	case !p.enter():
		return api.ErrStoreFails
	case key == "" || time < 0:
		return api.ErrStoreForm
	case there:
		return api.ErrStoreExists
	case len(p.objects) >= p.most:
		return api.ErrStoreFull
	}
	p.objects[key] = api.Object{Key: key, Data: data, Time: time}
	return api.OK
}

func (p *plain) get(key string) (string, api.Errno) {
	o, there := p.objects[key]
	switch {
	case !p.enter():
		return "", api.ErrStoreFails
	case !there:
		return "", api.ErrStoreNone
	}
	return o.Data, api.OK
}

func (p *plain) list(prefix string) ([]api.Object, api.Errno) {
	if !p.enter() {
		return nil, api.ErrStoreFails
	}
	var found []api.Object
	for _, o := range p.all() {
		if strings.HasPrefix(o.Key, prefix) {
			found = append(found, api.Object{Key: o.Key, Time: o.Time})
		}
	}
	return found, api.OK
}

func (p *plain) delete(key string) api.Errno {
	_, there := p.objects[key]
	switch {
	case !p.enter():
		return api.ErrStoreFails
	case !there:
		return api.ErrStoreNone
	}
	delete(p.objects, key)
	return api.OK
}

func (p *plain) all() []api.Object {
	var all []api.Object
	for _, o := range p.objects {
		all = append(all, o)
	}
	slices.SortFunc(all, func(a, b api.Object) int { return strings.Compare(a.Key, b.Key) })
	return all
}

func TestLongRowOfCalls(t *testing.T) {
	keys := []string{"", "a", "b", "aa", "ab", "ba", "aaa", "~", "A", "!"}
	for seed := range uint64(20) {
		state := seed*2 + 1
		roll := func(sides int) int {
			state = state*6364136223846793005 + 1442695040888963407
			return int((state >> 33) % uint64(sides))
		}
		most := 1 + roll(8)
		s, p := made(t, most), &plain{most: most, objects: map[string]api.Object{}}
		for i := range 2000 {
			key, data, time := keys[roll(len(keys))], strconv.Itoa(i), roll(12)-1
			switch roll(12) {
			case 0, 1, 2, 3:
				if e, want := s.Put(key, data, time), p.put(key, data, time); e != want {
					t.Fatalf("seed %d, call %d: Put(%q): %d, not %d", seed, i, key, e, want)
				}
			case 4, 5:
				d, e := s.Get(key)
				if want, code := p.get(key); d != want || e != code {
					t.Fatalf("seed %d, call %d: Get(%q): %q, %d, not %q, %d", seed, i, key, d, e, want, code)
				}
			case 6, 7:
				os, e := s.List(key)
				if want, code := p.list(key); !slices.Equal(os, want) || e != code {
					t.Fatalf("seed %d, call %d: List(%q): %v, %d, not %v, %d", seed, i, key, os, e, want, code)
				}
			case 8, 9:
				if e, want := s.Delete(key), p.delete(key); e != want {
					t.Fatalf("seed %d, call %d: Delete(%q): %d, not %d", seed, i, key, e, want)
				}
			case 10:
				many := roll(6) - 1
				if e := s.Fail(many); (e == api.OK) != (many >= 0) {
					t.Fatalf("seed %d, call %d: Fail(%d): %d", seed, i, many, e)
				}
				if many >= 0 {
					p.owed = many
				}
			case 11:
				s = s.Copy()
			}
			if s.Calls() != p.calls || !slices.Equal(s.All(), p.all()) {
				t.Fatalf("seed %d, call %d: %d calls, not %d; %v, not %v", seed, i, s.Calls(), p.calls, s.All(), p.all())
			}
		}
	}
}

// The greatest store, filled from both ends and emptied again.
func TestGreatestStore(t *testing.T) {
	s := made(t, api.MaxObjects)
	data := strings.Repeat("x", api.MaxText)
	name := func(i int) string { return "data/" + strconv.Itoa(10000+i) }
	for i := range api.MaxObjects / 2 {
		put(t, s, name(i), data, i)
		put(t, s, name(api.MaxObjects-1-i), data, i)
	}
	if os, e := s.List("data/"); e != api.OK || len(os) != api.MaxObjects || os[0].Key != name(0) || os[api.MaxObjects-1].Key != name(api.MaxObjects-1) {
		t.Errorf("List: %d, %d", len(os), e)
	}
	if os, e := s.List("data/1000"); e != api.OK || len(os) != 10 {
		t.Errorf("List: %d, %d", len(os), e)
	}
	o := s.Copy()
	for i := range api.MaxObjects {
		if e := s.Delete(name(i)); e != api.OK {
			t.Fatalf("Delete(%q): %d", name(i), e)
		}
	}
	holds(t, s)
	if n := len(o.All()); n != api.MaxObjects {
		t.Errorf("the copy holds %d", n)
	}
}
