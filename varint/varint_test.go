package varint_test

import (
	"encoding/binary"
	"math"
	"math/big"
	"math/bits"
	"strconv"
	"strings"
	"sync"
	"testing"
	"unsafe"

	"boathouse/api"
	"boathouse/varint"
)

// known is a number and its parts, written by hand.
type known struct {
	x     int
	parts string
}

// plain are numbers as Put writes them.
func plain() []known {
	return []known{
		{0, "\x00"}, {1, "\x01"}, {2, "\x02"}, {63, "\x3f"}, {64, "\x40"}, {97, "a"}, {126, "\x7e"}, {127, "\x7f"},
		{128, "\x80\x01"}, {129, "\x81\x01"}, {150, "\x96\x01"}, {255, "\xff\x01"}, {256, "\x80\x02"}, {300, "\xac\x02"},
		{16256, "\x80\x7f"}, {16383, "\xff\x7f"}, {16384, "\x80\x80\x01"}, {16385, "\x81\x80\x01"}, {16512, "\x80\x81\x01"},
		{65535, "\xff\xff\x03"}, {65536, "\x80\x80\x04"}, {624485, "\xe5\x8e\x26"},
		{2097151, "\xff\xff\x7f"}, {2097152, "\x80\x80\x80\x01"},
		{268435455, "\xff\xff\xff\x7f"}, {268435456, "\x80\x80\x80\x80\x01"},
		{2147483647, "\xff\xff\xff\xff\x07"}, {2147483648, "\x80\x80\x80\x80\x08"},
		{4294967295, "\xff\xff\xff\xff\x0f"}, {4294967296, "\x80\x80\x80\x80\x10"},
		{34359738367, "\xff\xff\xff\xff\x7f"}, {34359738368, "\x80\x80\x80\x80\x80\x01"},
		{4398046511103, "\xff\xff\xff\xff\xff\x7f"}, {4398046511104, "\x80\x80\x80\x80\x80\x80\x01"},
		{562949953421311, "\xff\xff\xff\xff\xff\xff\x7f"}, {562949953421312, "\x80\x80\x80\x80\x80\x80\x80\x01"},
		{72057594037927935, "\xff\xff\xff\xff\xff\xff\xff\x7f"}, {72057594037927936, "\x80\x80\x80\x80\x80\x80\x80\x80\x01"},
		{4611686018427387903, "\xff\xff\xff\xff\xff\xff\xff\xff\x3f"}, {4611686018427387904, "\x80\x80\x80\x80\x80\x80\x80\x80\x40"},
		{9223372036854775806, "\xfe\xff\xff\xff\xff\xff\xff\xff\x7f"}, {9223372036854775807, "\xff\xff\xff\xff\xff\xff\xff\xff\x7f"},
		// Parts that differ, so that their order counts.
		{1 + 2<<7 + 3<<14, "\x81\x82\x03"},
		{1 + 2<<7 + 3<<14 + 4<<21 + 5<<28 + 6<<35 + 7<<42 + 8<<49 + 9<<56, "\x81\x82\x83\x84\x85\x86\x87\x88\x09"},
	}
}

// signed are numbers as Zig writes them.
func signed() []known {
	return []known{
		{0, "\x00"}, {-1, "\x01"}, {1, "\x02"}, {-2, "\x03"}, {2, "\x04"}, {-3, "\x05"}, {62, "\x7c"}, {-63, "\x7d"},
		{63, "\x7e"}, {-64, "\x7f"}, {64, "\x80\x01"}, {-65, "\x81\x01"}, {65, "\x82\x01"}, {-66, "\x83\x01"},
		{150, "\xac\x02"}, {-150, "\xab\x02"}, {-127, "\xfd\x01"}, {127, "\xfe\x01"}, {-128, "\xff\x01"}, {128, "\x80\x02"}, {-129, "\x81\x02"},
		{8191, "\xfe\x7f"}, {-8192, "\xff\x7f"}, {8192, "\x80\x80\x01"}, {-8193, "\x81\x80\x01"},
		{1048575, "\xfe\xff\x7f"}, {-1048576, "\xff\xff\x7f"}, {1048576, "\x80\x80\x80\x01"}, {-1048577, "\x81\x80\x80\x01"},
		{134217727, "\xfe\xff\xff\x7f"}, {-134217728, "\xff\xff\xff\x7f"}, {134217728, "\x80\x80\x80\x80\x01"}, {-134217729, "\x81\x80\x80\x80\x01"},
		{2147483647, "\xfe\xff\xff\xff\x0f"}, {-2147483648, "\xff\xff\xff\xff\x0f"}, {2147483648, "\x80\x80\x80\x80\x10"}, {-2147483649, "\x81\x80\x80\x80\x10"},
		{17179869183, "\xfe\xff\xff\xff\x7f"}, {-17179869184, "\xff\xff\xff\xff\x7f"}, {17179869184, "\x80\x80\x80\x80\x80\x01"}, {-17179869185, "\x81\x80\x80\x80\x80\x01"},
		{2199023255551, "\xfe\xff\xff\xff\xff\x7f"}, {-2199023255552, "\xff\xff\xff\xff\xff\x7f"},
		{2199023255552, "\x80\x80\x80\x80\x80\x80\x01"}, {-2199023255553, "\x81\x80\x80\x80\x80\x80\x01"},
		{281474976710655, "\xfe\xff\xff\xff\xff\xff\x7f"}, {-281474976710656, "\xff\xff\xff\xff\xff\xff\x7f"},
		{281474976710656, "\x80\x80\x80\x80\x80\x80\x80\x01"}, {-281474976710657, "\x81\x80\x80\x80\x80\x80\x80\x01"},
		{36028797018963967, "\xfe\xff\xff\xff\xff\xff\xff\x7f"}, {-36028797018963968, "\xff\xff\xff\xff\xff\xff\xff\x7f"},
		{36028797018963968, "\x80\x80\x80\x80\x80\x80\x80\x80\x01"}, {-36028797018963969, "\x81\x80\x80\x80\x80\x80\x80\x80\x01"},
		{4611686018427387903, "\xfe\xff\xff\xff\xff\xff\xff\xff\x7f"}, {-4611686018427387904, "\xff\xff\xff\xff\xff\xff\xff\xff\x7f"},
		{4611686018427387904, "\x80\x80\x80\x80\x80\x80\x80\x80\x80\x01"}, {-4611686018427387905, "\x81\x80\x80\x80\x80\x80\x80\x80\x80\x01"},
		{9223372036854775806, "\xfc\xff\xff\xff\xff\xff\xff\xff\xff\x01"}, {-9223372036854775807, "\xfd\xff\xff\xff\xff\xff\xff\xff\xff\x01"},
		{9223372036854775807, "\xfe\xff\xff\xff\xff\xff\xff\xff\xff\x01"}, {-9223372036854775808, "\xff\xff\xff\xff\xff\xff\xff\xff\xff\x01"},
	}
}

// short cuts what a fault tells.
func short(s string) string {
	if len(s) > 40 {
		return strconv.QuoteToASCII(s[:20]) + " .. " + strconv.QuoteToASCII(s[len(s)-12:])
	}
	return strconv.QuoteToASCII(s)
}

// call is Get or Zag.
type call struct {
	name string
	ask  func(s string, at int) (int, int, api.Errno)
}

var (
	get = call{"Get", varint.Get}
	zag = call{"Zag", varint.Zag}
)

// answers asks for a number and the place behind it.
func (c call) answers(t *testing.T, s string, at int, want int, behind int) {
	t.Helper()
	if x, next, e := c.ask(s, at); x != want || next != behind || e != api.OK {
		t.Errorf("%s(%s, %d): %d, %d, %d, not %d, %d", c.name, short(s), at, x, next, e, want, behind)
	}
}

// refuses asks for the error, and for nothing beside it.
func (c call) refuses(t *testing.T, s string, at int, want api.Errno) {
	t.Helper()
	if x, next, e := c.ask(s, at); x != 0 || next != 0 || e != want {
		t.Errorf("%s(%s, %d): %d, %d, %d, not 0, 0, %d", c.name, short(s), at, x, next, e, want)
	}
}

// bothRefuse asks Get and Zag for the error.
func bothRefuse(t *testing.T, s string, at int, want api.Errno) {
	t.Helper()
	get.refuses(t, s, at, want)
	zag.refuses(t, s, at, want)
}

// puts asks for a number's parts, as Put writes them.
func puts(t *testing.T, x int, want string) {
	t.Helper()
	if s, e := varint.Put(x); s != want || e != api.OK {
		t.Errorf("Put(%d): %s, %d, not %s", x, short(s), e, short(want))
	}
}

// zigs asks for a number's parts, as Zig writes them.
func zigs(t *testing.T, x int, want string) {
	t.Helper()
	if s := varint.Zig(x); s != want {
		t.Errorf("Zig(%d): %s, not %s", x, short(s), short(want))
	}
}

// refusesToPut asks for the error, and for nothing beside it.
func refusesToPut(t *testing.T, x int) {
	t.Helper()
	if s, e := varint.Put(x); s != "" || e != api.ErrVarintForm {
		t.Errorf("Put(%d): %s, %d, not refused", x, short(s), e)
	}
}

// surroundings are what may lie ahead of a number and behind it, and is none of its own.
func surroundings() []known {
	return []known{{0, ""}, {1, "\x00"}, {1, "\xff"}, {2, "\x80\x80"}, {3, "\xac\x02\x80"}, {7, "text\x01\x7f\xff"}}
}

// there asks for a number amid whatever else.
func (c call) there(t *testing.T, k known) {
	t.Helper()
	for _, ahead := range surroundings() {
		for _, more := range surroundings() {
			c.answers(t, ahead.parts+k.parts+more.parts, len(ahead.parts), k.x, len(ahead.parts)+len(k.parts))
		}
	}
}

// roundAndBack asks all four calls for a number, with the library to hold them against.
func roundAndBack(t *testing.T, x int) {
	t.Helper()
	if x < 0 {
		refusesToPut(t, x)
	} else {
		parts := string(binary.AppendUvarint(nil, uint64(x)))
		puts(t, x, parts)
		get.answers(t, parts, 0, x, len(parts))
	}
	parts := string(binary.AppendVarint(nil, int64(x)))
	zigs(t, x, parts)
	zag.answers(t, parts, 0, x, len(parts))
}

// dice answers numbers that are the same in each run.
func dice(seed uint64) func() uint64 {
	state := seed*2 + 1
	return func() uint64 {
		state = state*6364136223846793005 + 1442695040888963407
		return bits.RotateLeft64(state, 29) ^ state
	}
}

// power is 2 to the n-th.
func power(n uint) *big.Int {
	return new(big.Int).Lsh(big.NewInt(1), n)
}

// spelled answers a number's parts, however great it is, and at least so many of them.
func spelled(number *big.Int, least int) string {
	var parts []byte
	rest := new(big.Int).Set(number)
	for rest.Sign() > 0 || len(parts) < max(least, 1) {
		parts = append(parts, byte(new(big.Int).Mod(rest, big.NewInt(128)).Int64())+128)
		rest.Div(rest, big.NewInt(128))
	}
	parts[len(parts)-1] -= 128
	return string(parts)
}

// judged asks Get and Zag for what follows from the words of the promise, worked out with numbers of any size.
func judged(t *testing.T, s string, at int) {
	t.Helper()
	if at < 0 || at > len(s) {
		bothRefuse(t, s, at, api.ErrVarintCut)
		return
	}
	number, behind := new(big.Int), 0
	for i := at; i < len(s) && behind == 0; i++ {
		part := big.NewInt(int64(s[i] % 128))
		number.Add(number, part.Lsh(part, uint(7*(i-at))))
		if s[i] < 128 {
			behind = i + 1
		}
	}
	if behind == 0 {
		bothRefuse(t, s, at, api.ErrVarintCut)
		return
	}
	form := s[at:behind] != spelled(number, 1)
	if form || number.Cmp(power(63)) >= 0 {
		get.refuses(t, s, at, api.ErrVarintForm)
	} else {
		get.answers(t, s, at, int(number.Int64()), behind)
	}
	if form || number.Cmp(power(64)) >= 0 {
		zag.refuses(t, s, at, api.ErrVarintForm)
		return
	}
	half := new(big.Int).Div(number, big.NewInt(2))
	if number.Bit(0) == 1 {
		half.Sub(big.NewInt(-1), half)
	}
	zag.answers(t, s, at, int(half.Int64()), behind)
}

// P5.1 Put, Get: what belongs together

func TestPutByHand(t *testing.T) {
	for _, k := range plain() {
		puts(t, k.x, k.parts)
	}
}

func TestGetByHand(t *testing.T) {
	for _, k := range plain() {
		get.there(t, k)
	}
}

// Every number at which a part more is needed, the one ahead of it, and the ones about them.
func TestPutAtEachPartMore(t *testing.T) {
	for parts := 1; parts <= 8; parts++ {
		edge := 1 << (7 * parts)
		for x := edge - 3; x < edge+3; x++ {
			s, e := varint.Put(x)
			want := parts
			if x >= edge {
				want++
			}
			if len(s) != want || e != api.OK {
				t.Errorf("Put(%d): %d parts, %d, not %d", x, len(s), e, want)
			}
			roundAndBack(t, x)
		}
		puts(t, edge-1, strings.Repeat("\xff", parts-1)+"\x7f")
		puts(t, edge, strings.Repeat("\x80", parts)+"\x01")
	}
	puts(t, math.MaxInt, strings.Repeat("\xff", 8)+"\x7f")
}

func TestPutRefuses(t *testing.T) {
	for _, x := range []int{-1, -2, -63, -64, -65, -127, -128, -129, -16384, -1 << 31, -1<<31 - 1, -1 << 32, -1 << 62, math.MinInt + 1, math.MinInt} {
		refusesToPut(t, x)
	}
	for n := range 64 {
		refusesToPut(t, -1<<n)
	}
}

// P5.2 Zig, Zag: what belongs together

func TestZigByHand(t *testing.T) {
	for _, k := range signed() {
		zigs(t, k.x, k.parts)
	}
}

func TestZagByHand(t *testing.T) {
	for _, k := range signed() {
		zag.there(t, k)
	}
}

// Every number of either sign at which a part more is needed, and the ones about it.
func TestZigAtEachPartMore(t *testing.T) {
	for parts := 1; parts <= 9; parts++ {
		edge := 1 << (7*parts - 1)
		for near := -3; near < 3; near++ {
			want := parts
			if near >= 0 {
				want++
			}
			for _, x := range []int{edge + near, -edge - near - 1} {
				if s := varint.Zig(x); len(s) != want {
					t.Errorf("Zig(%d): %d parts, not %d", x, len(s), want)
				}
				roundAndBack(t, x)
			}
		}
		zigs(t, -edge, strings.Repeat("\xff", parts-1)+"\x7f")
		zigs(t, edge, strings.Repeat("\x80", parts)+"\x01")
	}
	zigs(t, math.MinInt, strings.Repeat("\xff", 9)+"\x01")
}

// Numbers near 0 take turns: 0, -1, 1, -2, 2 and on.
func TestZigTakesTurns(t *testing.T) {
	for x := range 20000 {
		ahead, _ := varint.Put(2 * x)
		behind, _ := varint.Put(2*x + 1)
		zigs(t, x, ahead)
		zigs(t, -x-1, behind)
		zag.answers(t, ahead, 0, x, len(ahead))
		zag.answers(t, behind, 0, -x-1, len(behind))
	}
}

// Both: there and back

func TestAllNearNought(t *testing.T) {
	for x := -70000; x <= 70000; x++ {
		roundAndBack(t, x)
	}
}

func TestEachPower(t *testing.T) {
	for n := range 64 {
		for near := -2; near <= 2; near++ {
			x := int(uint64(1)<<n) + near
			roundAndBack(t, x)
			roundAndBack(t, -x)
		}
	}
	for _, x := range []int{math.MaxInt, math.MaxInt - 1, math.MinInt, math.MinInt + 1} {
		roundAndBack(t, x)
	}
}

// Numbers of every size, whose parts are of all kinds.
func TestRolledNumbers(t *testing.T) {
	roll := dice(1)
	for i := range 200000 {
		x := int(roll() >> (i % 64))
		roundAndBack(t, x)
		roundAndBack(t, ^x)
		roundAndBack(t, x&math.MaxInt)
	}
}

// As few parts as can be: as many as the number's bits ask for.
func TestAsFewAsCanBe(t *testing.T) {
	roll := dice(2)
	for i := range 5000 {
		number := roll() >> (i % 64)
		want := max(1, (bits.Len64(number)+6)/7)
		if number <= math.MaxInt {
			if s, _ := varint.Put(int(number)); len(s) != want {
				t.Errorf("Put(%d): %d parts, not %d", number, len(s), want)
			}
		}
		x := int(number>>1) ^ -int(number&1)
		if s := varint.Zig(x); len(s) != want {
			t.Errorf("Zig(%d): %d parts, not %d", x, len(s), want)
		}
	}
}

// One behind the other, each read from where the last ended.
func TestOneBehindTheOther(t *testing.T) {
	s := "\x00\x7f\x80\x01\xac\x02\xff\xff\xff\xff\xff\xff\xff\xff\x7f\x05"
	at := 0
	for _, want := range []known{{0, s[:1]}, {127, s[:2]}, {128, s[:4]}, {300, s[:6]}, {math.MaxInt, s[:15]}, {5, s[:16]}} {
		get.answers(t, s, at, want.x, len(want.parts))
		at = len(want.parts)
	}
	bothRefuse(t, s, at, api.ErrVarintCut)
	s = "\x00\x7f\x80\x01\xac\x02\xff\xff\xff\xff\xff\xff\xff\xff\xff\x01\x05"
	at = 0
	for _, want := range []known{{0, s[:1]}, {-64, s[:2]}, {64, s[:4]}, {150, s[:6]}, {math.MinInt, s[:16]}, {-3, s[:17]}} {
		zag.answers(t, s, at, want.x, len(want.parts))
		at = len(want.parts)
	}
	bothRefuse(t, s, at, api.ErrVarintCut)
}

// As many numbers as a text has room for.
func TestLongRows(t *testing.T) {
	roll := dice(3)
	var plain, signed strings.Builder
	var xs []int
	for plain.Len() < api.MaxText {
		x := int(roll() >> (1 + roll()%63))
		s, _ := varint.Put(x)
		plain.WriteString(s)
		signed.WriteString(varint.Zig(x))
		signed.WriteString(varint.Zig(-x))
		xs = append(xs, x)
	}
	at, place := 0, 0
	for _, x := range xs {
		y, next, e := varint.Get(plain.String(), at)
		z, between, f := varint.Zag(signed.String(), place)
		w, behind, g := varint.Zag(signed.String(), between)
		if y != x || z != x || w != -x || e != api.OK || f != api.OK || g != api.OK {
			t.Fatalf("%d: %d, %d, %d, %d, %d, %d", x, y, z, w, e, f, g)
		}
		at, place = next, behind
	}
	if at != plain.Len() || place != signed.Len() {
		t.Errorf("ended at %d of %d, %d of %d", at, plain.Len(), place, signed.Len())
	}
	bothRefuse(t, plain.String(), at, api.ErrVarintCut)
	bothRefuse(t, signed.String(), place, api.ErrVarintCut)
}

// A place inside a number is a place like any other.
func TestPlacesInside(t *testing.T) {
	s := "\x81\x82\x83\x84\x85\x86\x87\x88\x09"
	for at := range len(s) {
		want := 0
		for i := len(s) - 1; i >= at; i-- {
			want = want*128 + int(s[i]%128)
		}
		get.answers(t, s, at, want, len(s))
		judged(t, s, at)
	}
	get.answers(t, "\xac\x02", 1, 2, 2)
	zag.answers(t, "\xac\x02", 1, 1, 2)
	get.answers(t, "\xff\xff\xff\x00", 3, 0, 4)
	zag.answers(t, "\xff\xff\xff\x03", 3, -2, 4)
}

// Both: what is refused

func TestPlacesOutside(t *testing.T) {
	for _, s := range []string{"", "\x00", "a", "\x80", "\xac\x02", "\x80\x00", "abc", strings.Repeat("\x01", 300), strings.Repeat("\xff", 300)} {
		for _, at := range []int{-1, -2, -len(s), -len(s) - 1, -1 << 31, -1 << 32, math.MinInt, math.MinInt + 1} {
			if at < 0 {
				bothRefuse(t, s, at, api.ErrVarintCut)
			}
		}
		for _, at := range []int{len(s), len(s) + 1, len(s) + 2, 2*len(s) + 1, 1 << 31, 1 << 32, math.MaxInt - 1, math.MaxInt} {
			bothRefuse(t, s, at, api.ErrVarintCut)
		}
	}
}

// A text that ends ahead of a number's last part, wherever it is cut.
func TestCutWithinNumbers(t *testing.T) {
	for _, k := range append(plain(), signed()...) {
		for end := range len(k.parts) {
			bothRefuse(t, k.parts[:end], 0, api.ErrVarintCut)
			bothRefuse(t, "\x01\xff\x00"+k.parts[:end], 3, api.ErrVarintCut)
		}
	}
}

// Bytes from 128 on alone, few or many: that there is no last part is told, whatever else could be.
func TestNoLastPart(t *testing.T) {
	for first := 128; first < 256; first++ {
		for _, other := range []string{"\x80", "\x81", "\xff"} {
			for size := range 24 {
				s := string([]byte{byte(first)}) + strings.Repeat(other, size)
				bothRefuse(t, s, 0, api.ErrVarintCut)
				bothRefuse(t, s, len(s)/2, api.ErrVarintCut)
			}
		}
	}
	for _, size := range []int{255, 256, 4096, api.MaxText - 1, api.MaxText, api.MaxText + 1, 64 * api.MaxText} {
		for _, part := range []string{"\x80", "\x81", "\xfe", "\xff"} {
			s := strings.Repeat(part, size)
			for _, at := range []int{0, 1, size / 2, size - 11, size - 10, size - 9, size - 1, size} {
				bothRefuse(t, s, at, api.ErrVarintCut)
			}
			// A last part ahead of the place is none.
			bothRefuse(t, "\x01"+s, 1, api.ErrVarintCut)
		}
	}
}

// A last part 0 behind others: there are fewer parts that say the same.
func TestLastPartNought(t *testing.T) {
	for _, k := range append(plain(), signed()...) {
		parts := []byte(k.parts)
		parts[len(parts)-1] |= 128
		for more := range 12 {
			s := string(parts) + strings.Repeat("\x80", more) + "\x00"
			bothRefuse(t, s, 0, api.ErrVarintForm)
			bothRefuse(t, "\x00\xff"+s+"\x01", 2, api.ErrVarintForm)
		}
	}
	for size := 1; size < 40; size++ {
		bothRefuse(t, strings.Repeat("\x80", size)+"\x00", 0, api.ErrVarintForm)
		bothRefuse(t, strings.Repeat("\xff", size)+"\x00", 0, api.ErrVarintForm)
	}
	// The place may lie behind the others.
	get.answers(t, "\x80\x00", 1, 0, 2)
	zag.answers(t, "\x80\x00", 1, 0, 2)
}

// The greatest that Get takes, the greatest that Zag takes, and the next above them.
func TestGreatestNumbers(t *testing.T) {
	get.answers(t, "\xff\xff\xff\xff\xff\xff\xff\xff\x7f", 0, math.MaxInt, 9)
	zag.answers(t, "\xff\xff\xff\xff\xff\xff\xff\xff\x7f", 0, -1<<62, 9)
	get.refuses(t, "\x80\x80\x80\x80\x80\x80\x80\x80\x80\x01", 0, api.ErrVarintForm)
	zag.answers(t, "\x80\x80\x80\x80\x80\x80\x80\x80\x80\x01", 0, 1<<62, 10)
	get.refuses(t, "\xff\xff\xff\xff\xff\xff\xff\xff\xff\x01", 0, api.ErrVarintForm)
	zag.answers(t, "\xff\xff\xff\xff\xff\xff\xff\xff\xff\x01", 0, math.MinInt, 10)
	bothRefuse(t, "\x80\x80\x80\x80\x80\x80\x80\x80\x80\x02", 0, api.ErrVarintForm)
	bothRefuse(t, "\x81\x80\x80\x80\x80\x80\x80\x80\x80\x02", 0, api.ErrVarintForm)
	bothRefuse(t, "\xff\xff\xff\xff\xff\xff\xff\xff\xff\x03", 0, api.ErrVarintForm)
}

// Too great by any one bit, by any number of them, and by what is just above.
func TestTooGreat(t *testing.T) {
	for n := uint(56); n < 200; n++ {
		for near := int64(-2); near <= 2; near++ {
			number := new(big.Int).Add(power(n), big.NewInt(near))
			judged(t, spelled(number, 1), 0)
			judged(t, "\x80"+spelled(number, 1)+"\xff", 1)
		}
	}
	for _, low := range []string{"\x80", "\x81", "\xfe", "\xff"} {
		for last := range 128 {
			end := string([]byte{byte(last)})
			if judged(t, strings.Repeat(low, 9)+end, 0); last == 0 || last > 1 {
				bothRefuse(t, strings.Repeat(low, 9)+end, 0, api.ErrVarintForm)
			}
			judged(t, strings.Repeat(low, 8)+end, 0)
			bothRefuse(t, strings.Repeat(low, 10)+end, 0, api.ErrVarintForm)
			bothRefuse(t, strings.Repeat(low, 11)+end, 0, api.ErrVarintForm)
		}
	}
}

// More parts than a number has, however many, though all that is behind the lowest may be 0.
func TestTooManyParts(t *testing.T) {
	for size := 10; size < 140; size++ {
		for _, part := range []string{"\x80", "\x81", "\xff"} {
			for _, last := range []string{"\x00", "\x01", "\x02", "\x40", "\x7f"} {
				bothRefuse(t, strings.Repeat(part, size)+last, 0, api.ErrVarintForm)
			}
		}
	}
	for _, size := range []int{255, 256, 4096, api.MaxText - 1, api.MaxText, 64 * api.MaxText} {
		s := strings.Repeat("\x80", size) + "\x01"
		bothRefuse(t, s, 0, api.ErrVarintForm)
		bothRefuse(t, s+"\x05", 1, api.ErrVarintForm)
		bothRefuse(t, s, size-10, api.ErrVarintForm)
		get.refuses(t, s, size-9, api.ErrVarintForm)
		zag.answers(t, s, size-9, 1<<62, size+1)
		get.answers(t, s, size-8, 1<<56, size+1)
		get.answers(t, s, size, 1, size+1)
	}
}

// Every text of at most two bytes, from every place.
func TestShortTexts(t *testing.T) {
	for a := range 256 {
		one := string([]byte{byte(a)})
		for at := -1; at < 3; at++ {
			judged(t, one, at)
		}
		for b := range 256 {
			two := string([]byte{byte(a), byte(b)})
			for at := range 3 {
				judged(t, two, at)
			}
		}
	}
}

// Texts whose bytes are at edges, so that parts, last parts and noughts come in every order.
func TestRolledTexts(t *testing.T) {
	roll := dice(4)
	edges := []byte{0, 1, 2, 0x3f, 0x40, 0x7f, 0x80, 0x81, 0xbf, 0xc0, 0xfe, 0xff, 0x80, 0xff}
	for i := range 20000 {
		text := make([]byte, i%24)
		for k := range text {
			text[k] = byte(roll())
			if roll()%4 > 0 {
				text[k] = edges[roll()%uint64(len(edges))]
			}
			if roll()%8 > 0 {
				text[k] |= 128
			}
		}
		for at := -1; at < len(text)+2; at++ {
			judged(t, string(text), at)
		}
	}
}

// The rules of all calls

// The text's memory is the test's own, so that a byte written to it would be seen.
func TestTextsStayAsTheyWere(t *testing.T) {
	for _, s := range []string{"\xac\x02\xff\xff", "\x80\x80\x80\x01", "\x80\x00\x01\x02", strings.Repeat("\xff", 300)} {
		held := []byte(s)
		given := unsafe.String(&held[0], len(held)-1)
		for at := range len(s) + 1 {
			varint.Get(given, at)
			varint.Zag(given, at)
		}
		if string(held) != s {
			t.Errorf("%s became %s", short(s), short(string(held)))
		}
	}
}

// What was asked ahead plays no part, whoever asks at the same time.
func TestSameAnswersEachTime(t *testing.T) {
	var group sync.WaitGroup
	for turn := range 8 {
		group.Go(func() {
			ks := plain()
			for i := range ks {
				k := ks[(i+turn*5)%len(ks)]
				puts(t, k.x, k.parts)
				get.there(t, k)
				refusesToPut(t, ^k.x)
			}
			ks = signed()
			for i := range ks {
				k := ks[(i+turn*7)%len(ks)]
				zigs(t, k.x, k.parts)
				zag.there(t, k)
				bothRefuse(t, k.parts, len(k.parts), api.ErrVarintCut)
			}
		})
	}
	group.Wait()
}
