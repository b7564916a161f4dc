package vec_test

import (
	"slices"
	"strings"
	"sync"
	"testing"
	"unsafe"

	"boathouse/api"
	"boathouse/vec"
)

// The rules of all calls

// R4: neither the list nor what stands ahead of it or in its spare room is written to.
func TestListsStayAsTheyWere(t *testing.T) {
	r := rolls(6)
	spare := api.Value{Kind: 9, I: 3, B: true, S: "spare"}
	ask := func(kind int, vs []api.Value) {
		t.Helper()
		was := slices.Concat(values(spare, spare), vs, values(spare, num(1), spare))
		whole := slices.Clone(was)
		list := whole[2 : 2+len(vs)]
		vec.Put(kind, list)
		vec.Encoding(kind, list)
		if !slices.Equal(whole, was) {
			t.Errorf("%s became %s", tell(was), tell(whole))
		}
	}
	for range 500 {
		for _, kind := range kinds() {
			vs := rolled(r, kind, 60)
			ask(kind, vs)
			ask(0, vs)
			ask(kind, append(vs, num(1), text("\xff"), truth(true)))
		}
	}
	for _, k := range byHand() {
		ask(k.kind, k.vs)
	}
	ask(api.KindInt, times(api.MaxTable+1, num(7)))
}

// R4: what becomes of a list or of a text's memory later on is not seen in what was answered, nor is it written to.
func TestArgumentsAreNotKept(t *testing.T) {
	for _, s := range []string{"a", "abc", "é日", strings.Repeat("x", api.MaxValue)} {
		held := []byte(s)
		v := text(unsafe.String(&held[0], len(held)))
		for _, vs := range [][]api.Value{values(v), values(v, null(), text("b")), times(30, v), slices.Concat(times(30, v), times(30, text("b")))} {
			_, body := told(vs)
			want := bares(vs)
			for i := range want {
				want[i].S = strings.Clone(want[i].S)
			}
			put, _ := vec.Put(api.KindText, vs)
			bytes := []byte(put)
			got, _ := vec.Get(api.KindText, unsafe.String(&bytes[0], len(bytes)))
			if string(held) != s || string(bytes) != sealed(body) {
				t.Errorf("%s was written to", short(s))
			}
			for i := range held {
				held[i] ^= 0x55
			}
			for i := range vs {
				vs[i] = num(9)
			}
			for i := range bytes {
				bytes[i] ^= 0x55
			}
			if put != sealed(body) || !slices.Equal(got, want) {
				t.Errorf("%s became %s, %s", short(body), short(put), tell(got))
			}
			copy(held, s)
		}
	}
}

// span is where memory begins, and where it ends.
type span struct{ from, to uintptr }

// spanOf answers a text's memory.
func spanOf(s string) span {
	from := uintptr(unsafe.Pointer(unsafe.StringData(s)))
	return span{from, from + uintptr(len(s))}
}

// spansOf answers the memory of values: of the list, with its spare room, and of each of its texts.
func spansOf(vs []api.Value) []span {
	from := uintptr(unsafe.Pointer(unsafe.SliceData(vs)))
	all := []span{{from, from + uintptr(cap(vs))*unsafe.Sizeof(api.Value{})}}
	for _, v := range vs {
		if v.S != "" {
			all = append(all, spanOf(v.S))
		}
	}
	return all
}

// apart asks that no memory of one thing meets that of another.
func apart(t *testing.T, things ...[]span) {
	t.Helper()
	for i, thing := range things {
		for _, first := range thing {
			for _, second := range slices.Concat(things[:i]...) {
				if first.from < second.to && second.from < first.to {
					t.Errorf("%v and %v meet", first, second)
				}
			}
		}
	}
}

// R4: no list that is answered, and no text, lies in an argument's memory or in another answer's.
func TestMemoryIsApart(t *testing.T) {
	for _, k := range byHand() {
		put, _ := vec.Put(k.kind, k.vs)
		again, _ := vec.Put(k.kind, k.vs)
		got, _ := vec.Get(k.kind, put)
		other, _ := vec.Get(k.kind, put)
		apart(t, spansOf(k.vs), []span{spanOf(put)}, []span{spanOf(again)}, spansOf(got), spansOf(other))
	}
}

// R4: what is written into one answer, its spare room too, is not seen in another.
func TestAnswersAreApart(t *testing.T) {
	for _, k := range byHand() {
		first, _ := vec.Get(k.kind, sealed(k.body))
		second, _ := vec.Get(k.kind, sealed(k.body))
		for i := range cap(first) {
			first[:cap(first)][i] = text("other")
		}
		if !slices.Equal(second, k.vs) {
			t.Errorf("became %s", tell(second))
		}
		puts(t, k.kind, k.vs, k.encoding, k.body)
		gets(t, k.kind, k.body, k.vs)
	}
}

// R5: what was asked ahead plays no part, whoever asks at the same time, of the same lists even.
func TestSameAnswersEachTime(t *testing.T) {
	var group sync.WaitGroup
	ks := byHand()
	for turn := range 8 {
		group.Go(func() {
			for i := range 10 * len(ks) {
				k := ks[(i+turn*5)%len(ks)]
				puts(t, k.kind, k.vs, k.encoding, k.body)
				gets(t, k.kind, k.body, k.vs)
				putRefuses(t, -k.kind, k.vs, api.ErrVecKind)
				putRefuses(t, k.kind, append(slices.Clone(k.vs), text("\xff")), api.ErrVecForm)
				misformed(t, k.kind, k.body+"\x00")
				getRefuses(t, k.kind, k.body, api.ErrVecSum)
			}
		})
	}
	group.Wait()
}
