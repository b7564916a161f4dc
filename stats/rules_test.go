package stats_test

import (
	"slices"
	"strings"
	"sync"
	"testing"
	"unsafe"

	"boathouse/api"
	"boathouse/stats"
)

// The rules of all calls

// R4: neither the list nor what stands ahead of it or in its spare room is written to.
func TestListsStayAsTheyWere(t *testing.T) {
	r := rolls(5)
	spare := api.Value{Kind: 9, I: 3, B: true, S: "spare"}
	ask := func(vs []api.Value) {
		t.Helper()
		was := slices.Concat(values(spare, num(-7)), vs, values(spare, num(1), spare))
		whole := slices.Clone(was)
		stats.Of(1, whole[2:2+len(vs)])
		stats.Of(2, whole[2:2])
		stats.Of(3, whole)
		if !slices.Equal(whole, was) {
			t.Errorf("%s became %s", tell(was), tell(whole))
		}
	}
	for _, k := range byHand() {
		ask(k.vs)
	}
	for range 2000 {
		ask(rolled(r, 20))
	}
}

// ownText answers a text value whose memory is the bytes held.
func ownText(held []byte) api.Value {
	return text(unsafe.String(&held[0], len(held)))
}

// R4: what becomes of a list or of a text's memory later on is not seen in what was answered, nor is it written to.
func TestArgumentsAreNotKept(t *testing.T) {
	for _, s := range []string{"a", "abc", "é日", "\xff\x00", strings.Repeat("x", api.MaxValue), strings.Repeat("y", api.MaxText)} {
		held := []byte(s)
		v := ownText(held)
		vs := values(v, null(), v)
		mixed := values(v, num(1), text("\x00"), text("\xff\xff"))
		lone := stat(2, 0, v, v)
		got := []api.Stat{
			stats.Of(1, vs), stats.Of(1, values(v)), stats.Of(1, append(mixed[:1:1], mixed[1])), stats.Of(1, mixed[:1]),
			stats.Join(lone, bare(1, 0)), stats.Join(bare(2, 0), lone), stats.Join(lone, lone),
			stats.Join(lone, stat(1, 0, text("\x00"), text("\x00"))), stats.Join(stat(2, 0, text("\xff\xff"), text("\xff\xff")), lone),
		}
		if string(held) != s {
			t.Errorf("a text of %d bytes was written to", len(s))
		}
		for i := range held {
			held[i] ^= 0x55
		}
		for i := range vs {
			vs[i] = num(9)
		}
		same := text(s)
		want := []api.Stat{
			stat(1, 1, same, same), stat(1, 0, same, same), stat(1, 0, num(1), same), stat(1, 0, same, same),
			stat(2, 0, same, same), stat(2, 0, same, same), stat(2, 0, same, same),
			stat(2, 0, text("\x00"), same), stat(2, 0, same, text("\xff\xff")),
		}
		for i := range got {
			if got[i] != want[i] {
				t.Errorf("%s became %s", tellStat(want[i]), tellStat(got[i]))
			}
		}
	}
}

// spans answers where the texts of statistics begin in memory and where they end.
func spans(s api.Stat) [][2]uintptr {
	var all [][2]uintptr
	for _, v := range values(s.Min, s.Max) {
		if v.S != "" {
			from := uintptr(unsafe.Pointer(unsafe.StringData(v.S)))
			all = append(all, [2]uintptr{from, from + uintptr(len(v.S))})
		}
	}
	return all
}

// apart asks that no text of some statistics lies in the memory of others'.
func apart(t *testing.T, all ...api.Stat) {
	t.Helper()
	for i, s := range all {
		for _, first := range spans(s) {
			for _, other := range all[:i] {
				for _, second := range spans(other) {
					if first[0] < second[1] && second[0] < first[1] {
						t.Errorf("%s and %s share a text", tellStat(s), tellStat(other))
					}
				}
			}
		}
	}
}

// R4: no text of an answer lies in an argument's memory or in another answer's.
func TestMemoryIsApart(t *testing.T) {
	for _, k := range byHand() {
		given := stat(1, 0, k.least, k.greatest)
		a, b := stats.Of(1, k.vs), stats.Of(1, k.vs)
		apart(t, given, a, b, stats.Join(a, b), stats.Join(a, b), stats.Join(b, a), stats.Join(a, bare(2, 0)), stats.Join(bare(2, 0), a))
		for _, v := range k.vs {
			apart(t, stat(1, 0, v, null()), a)
		}
	}
}

// R5: what was asked ahead plays no part, whoever asks at the same time, of the same lists even.
func TestSameAnswersEachTime(t *testing.T) {
	var group sync.WaitGroup
	ks, ps := byHand(), joinedByHand()
	for turn := range 8 {
		group.Go(func() {
			for i := range 20 * len(ks) {
				k, p := ks[(i+turn*5)%len(ks)], ps[(i*3+turn*7)%len(ps)]
				asks(t, turn, k.vs, stat(turn, k.nulls, k.least, k.greatest))
				joinsEitherWay(t, p.a, p.b, p.want)
			}
		})
	}
	group.Wait()
}
