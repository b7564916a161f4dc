package bitpack_test

import (
	"math"
	"math/big"
	"math/bits"
	"slices"
	"strconv"
	"strings"
	"sync"
	"testing"
	"unsafe"

	"boathouse/api"
	"boathouse/bitpack"
)

// known is a list of numbers and its bytes, written by hand.
type known struct {
	width  int
	xs     []int
	packed string
}

// byHand are lists as Pack writes them, at each width.
func byHand() []known {
	return []known{
		{0, nil, ""}, {0, []int{0}, ""}, {0, []int{0, 0, 0, 0, 0, 0, 0, 0, 0}, ""},
		{1, nil, ""}, {1, []int{0}, "\x00"}, {1, []int{1}, "\x01"}, {1, []int{0, 1}, "\x02"}, {1, []int{1, 0, 1, 1}, "\x0d"},
		{1, []int{0, 0, 0, 0, 0, 0, 0, 1}, "\x80"}, {1, []int{1, 0, 1, 1, 0, 0, 0, 1}, "\x8d"},
		{1, []int{1, 0, 1, 1, 0, 0, 0, 1, 1}, "\x8d\x01"}, {1, []int{0, 0, 0, 0, 0, 0, 0, 0, 0}, "\x00\x00"},
		{2, []int{3}, "\x03"}, {2, []int{1, 2, 3, 0}, "\x39"}, {2, []int{0, 3, 2, 1}, "\x6c"}, {2, []int{1, 2, 3, 0, 2}, "\x39\x02"},
		{3, []int{7}, "\x07"}, {3, []int{5, 3}, "\x1d"}, {3, []int{1, 2, 4}, "\x11\x01"},
		{3, []int{0, 1, 2, 3, 4, 5, 6, 7}, "\x88\xc6\xfa"}, {3, []int{1, 2, 3, 4, 5, 6, 7, 0}, "\xd1\x58\x1f"},
		{3, []int{0, 1, 2, 3, 4, 5, 6, 7, 5}, "\x88\xc6\xfa\x05"},
		{4, []int{10}, "\x0a"}, {4, []int{1, 2}, "\x21"}, {4, []int{1, 2, 3}, "\x21\x03"}, {4, []int{15, 0, 0, 15}, "\x0f\xf0"},
		{5, []int{1, 2, 3}, "\x41\x0c"}, {5, []int{31, 0, 31}, "\x1f\x7c"}, {5, []int{0, 0, 0, 0, 0, 0, 0, 1}, "\x00\x00\x00\x00\x08"},
		{6, []int{1, 2, 3, 4}, "\x81\x30\x10"}, {6, []int{0, 63}, "\xc0\x0f"}, {6, []int{33}, "\x21"},
		{7, []int{127, 0, 1}, "\x7f\x40\x00"}, {7, []int{65, 66}, "\x41\x21"}, {7, []int{0, 127}, "\x80\x3f"},
		{8, []int{0}, "\x00"}, {8, []int{1, 255, 0, 97}, "\x01\xff\x00a"}, {8, []int{128, 127}, "\x80\x7f"},
		{9, []int{256}, "\x00\x01"}, {9, []int{257, 256}, "\x01\x01\x02"}, {9, []int{511, 0, 0, 0, 0, 0, 0, 511}, "\xff\x01\x00\x00\x00\x00\x00\x80\xff"},
		{10, []int{1023, 1}, "\xff\x07\x00"}, {10, []int{513, 2, 0, 3}, "\x01\x0a\x00\xc0\x00"},
		{11, []int{1, 1024, 5}, "\x01\x00\x60\x01\x00"}, {11, []int{2047}, "\xff\x07"},
		{12, []int{0xabc}, "\xbc\x0a"}, {12, []int{0xabc, 0x123}, "\xbc\x3a\x12"}, {12, []int{1, 2, 3}, "\x01\x20\x00\x03\x00"},
		{13, []int{8191, 0, 1}, "\xff\x1f\x00\x04\x00"}, {13, []int{4096, 4096}, "\x00\x10\x00\x02"},
		{14, []int{10000, 2}, "\x10\xa7\x00\x00"}, {14, []int{0, 0, 0, 16383}, "\x00\x00\x00\x00\x00\xfc\xff"},
		{15, []int{32767, 1}, "\xff\xff\x00\x00"}, {15, []int{16384, 16384, 1}, "\x00\x40\x00\x60\x00\x00"},
		{16, nil, ""}, {16, []int{97}, "a\x00"}, {16, []int{1, 256, 65535, 4660}, "\x01\x00\x00\x01\xff\xff\x34\x12"}, {16, []int{32768}, "\x00\x80"},
	}
}

// wrongWidths are no widths, though some of them have lowest bits that are one.
func wrongWidths() []int {
	return []int{
		-1, -2, -8, -16, -17, api.MaxWidth + 1, api.MaxWidth + 2, 24, 31, 32, 33, 63, 64, 65, 128, 255, 256, 257, 264,
		1 << 16, 1<<16 + 4, 1 << 31, 1 << 32, 1<<32 + 8, 1 << 61, 1 << 62, -1 << 31, -1 << 32, -1<<32 + 8, math.MaxInt, math.MaxInt - 1, math.MinInt, math.MinInt + 8,
	}
}

// wrongManys are counts of no list, though some of them times a width have lowest bits that are 0.
func wrongManys() []int {
	return []int{
		-1, -2, -7, -8, -64, -65536, -1 << 31, -1 << 32, -1 << 60, -1 << 61, -1 << 62, math.MinInt, math.MinInt + 1,
		api.MaxText + 1, api.MaxText + 2, 2 * api.MaxText, 1 << 28, 1 << 31, 1 << 32, 1<<32 + 1, 1 << 59, 1 << 60, 1<<60 + 1, 1 << 61, 1<<61 + 1, 1 << 62, 1<<62 + 1, math.MaxInt - 1, math.MaxInt,
	}
}

// shortText cuts what a fault tells.
func shortText(s string) string {
	if len(s) > 40 {
		return strconv.Itoa(len(s)) + " bytes " + strconv.QuoteToASCII(s[:20]) + " .. " + strconv.QuoteToASCII(s[len(s)-12:])
	}
	return strconv.QuoteToASCII(s)
}

// shortList cuts what a fault tells.
func shortList(xs []int) string {
	var told []string
	for _, x := range xs[:min(len(xs), 20)] {
		told = append(told, strconv.Itoa(x))
	}
	return strconv.Itoa(len(xs)) + " numbers [" + strings.Join(told, " ") + "]"
}

// packs asks for a list's bytes.
func packs(t *testing.T, xs []int, width int, want string) {
	t.Helper()
	if s, e := bitpack.Pack(xs, width); s != want || e != api.OK {
		t.Errorf("Pack(%s, %d): %s, %d, not %s", shortList(xs), width, shortText(s), e, shortText(want))
	}
}

// unpacks asks for a list again.
func unpacks(t *testing.T, s string, width int, want []int) {
	t.Helper()
	if xs, e := bitpack.Unpack(s, len(want), width); !slices.Equal(xs, want) || e != api.OK {
		t.Errorf("Unpack(%s, %d, %d): %s, %d, not %s", shortText(s), len(want), width, shortList(xs), e, shortList(want))
	}
}

// refusesToPack asks for the error, and for nothing beside it.
func refusesToPack(t *testing.T, xs []int, width int, want api.Errno) {
	t.Helper()
	if s, e := bitpack.Pack(xs, width); s != "" || e != want {
		t.Errorf("Pack(%s, %d): %s, %d, not %d", shortList(xs), width, shortText(s), e, want)
	}
}

// refusesToUnpack asks for the error, and for nothing beside it.
func refusesToUnpack(t *testing.T, s string, many int, width int, want api.Errno) {
	t.Helper()
	if xs, e := bitpack.Unpack(s, many, width); len(xs) != 0 || e != want {
		t.Errorf("Unpack(%s, %d, %d): %s, %d, not %d", shortText(s), many, width, shortList(xs), e, want)
	}
}

// thereAndBack asks for a list's bytes, as the test's own walk over single bits writes them, and for the list again.
func thereAndBack(t *testing.T, xs []int, width int) {
	t.Helper()
	want := bitByBit(xs, width)
	packs(t, xs, width, want)
	unpacks(t, want, width, xs)
}

// bitByBit answers a list's bytes: each bit is set at its place, alone.
func bitByBit(xs []int, width int) string {
	packed := make([]byte, sizeOf(len(xs), width))
	for i, x := range xs {
		for bit := range width {
			if x>>bit&1 == 1 {
				place := i*width + bit
				packed[place/8] |= 1 << (place % 8)
			}
		}
	}
	return string(packed)
}

// sizeOf answers how many bytes so many numbers fill, the last one maybe not wholly.
func sizeOf(many int, width int) int {
	size := many * width / 8
	if many*width%8 > 0 {
		size++
	}
	return size
}

// judged asks Unpack for what follows from the words of the promise, worked out with one number as great as the whole text.
func judged(t *testing.T, s string, many int, width int) {
	t.Helper()
	if len(s) != sizeOf(many, width) {
		refusesToUnpack(t, s, many, width, api.ErrBitpackCut)
		return
	}
	highest := []byte(s)
	slices.Reverse(highest)
	rest := new(big.Int).SetBytes(highest)
	every := new(big.Int).Lsh(big.NewInt(1), uint(width))
	want, digit := make([]int, many), new(big.Int)
	for i := range want {
		rest.DivMod(rest, every, digit)
		want[i] = int(digit.Int64())
	}
	if rest.Sign() != 0 {
		refusesToUnpack(t, s, many, width, api.ErrBitpackCut)
		return
	}
	unpacks(t, s, width, want)
	packs(t, want, width, s)
}

// dice answers numbers that are the same in each run.
func dice(seed uint64) func() uint64 {
	state := seed*2 + 1
	return func() uint64 {
		state = state*6364136223846793005 + 1442695040888963407
		return bits.RotateLeft64(state, 29) ^ state
	}
}

// rolled answers so many numbers of at most so many bits, the least and the greatest among them more often.
func rolled(roll func() uint64, many int, width int) []int {
	xs := make([]int, many)
	for i := range xs {
		xs[i] = int(roll() % (1 << width))
		switch roll() % 8 {
		case 0:
			xs[i] = 0
		case 1:
			xs[i] = 1<<width - 1
		}
	}
	return xs
}

// P6.1 Width

func TestWidthByHand(t *testing.T) {
	for _, c := range []struct{ most, want int }{
		{0, 0}, {1, 1}, {2, 2}, {3, 2}, {4, 3}, {5, 3}, {6, 3}, {7, 3}, {8, 4}, {9, 4}, {15, 4}, {16, 5}, {17, 5}, {31, 5}, {32, 6}, {63, 6}, {64, 7},
		{97, 7}, {100, 7}, {127, 7}, {128, 8}, {255, 8}, {256, 9}, {1000, 10}, {1023, 10}, {1024, 11}, {4095, 12}, {4096, 13}, {32767, 15}, {32768, 16},
		{65535, 16}, {65536, 17}, {1000000, 20}, {2147483647, 31}, {2147483648, 32}, {4294967295, 32}, {4294967296, 33},
		{4611686018427387903, 62}, {4611686018427387904, 63}, {9223372036854775806, 63}, {9223372036854775807, 63},
	} {
		if got := bitpack.Width(c.most); got != c.want {
			t.Errorf("Width(%d): %d, not %d", c.most, got, c.want)
		}
	}
}

// Each power of 2 has a bit more than the number ahead of it, and as many as all up to the next.
func TestWidthAtEachPower(t *testing.T) {
	for n := range 63 {
		power := 1 << n
		for _, c := range []struct{ most, want int }{{power - 1, n}, {power, n + 1}, {power + (power - 1), n + 1}, {power + power/2, n + 1}} {
			if got := bitpack.Width(c.most); got != c.want {
				t.Errorf("Width(%d): %d, not %d", c.most, got, c.want)
			}
		}
	}
}

func TestWidthBelowNought(t *testing.T) {
	belows := []int{-1, -2, -3, -4, -5, -7, -8, -127, -128, -255, -256, -65535, -65536, -1 << 31, -1<<31 - 1, -1 << 32, -1 << 62, math.MinInt, math.MinInt + 1}
	for n := range 64 {
		belows = append(belows, -1<<n)
	}
	for _, most := range belows {
		if got := bitpack.Width(most); got != 0 {
			t.Errorf("Width(%d): %d", most, got)
		}
	}
}

// A number's digits by 2 are as many as its bits.
func TestWidthOfAllThatCanBePacked(t *testing.T) {
	for most := 1; most <= 1<<(api.MaxWidth+1); most++ {
		if got, want := bitpack.Width(most), len(strconv.FormatInt(int64(most), 2)); got != want {
			t.Fatalf("Width(%d): %d, not %d", most, got, want)
		}
	}
}

func TestWidthOfRolledNumbers(t *testing.T) {
	roll := dice(1)
	for i := range 20000 {
		most := int(roll() >> (1 + i%63))
		want := 0
		for rest := most; rest > 0; rest /= 2 {
			want++
		}
		if got := bitpack.Width(most); got != want {
			t.Errorf("Width(%d): %d, not %d", most, got, want)
		}
		if got := bitpack.Width(^most); got != 0 {
			t.Errorf("Width(%d): %d, not 0", ^most, got)
		}
	}
}

// A number fits its width, and none below it.
func TestWidthIsWhatPackAsksFor(t *testing.T) {
	for most := range 1 << api.MaxWidth {
		width := bitpack.Width(most)
		if _, e := bitpack.Pack([]int{most}, width); e != api.OK {
			t.Fatalf("Pack([%d], %d): %d", most, width, e)
		}
		if width > 0 {
			refusesToPack(t, []int{most}, width-1, api.ErrBitpackRange)
		}
	}
}

// P6.1 Pack, Unpack: what belongs together

func TestPackByHand(t *testing.T) {
	for _, k := range byHand() {
		packs(t, k.xs, k.width, k.packed)
	}
}

func TestUnpackByHand(t *testing.T) {
	for _, k := range byHand() {
		unpacks(t, k.packed, k.width, k.xs)
	}
}

// The bytes by hand are at every width, so that none is judged by the test's own walk alone.
func TestEachWidthByHand(t *testing.T) {
	met := map[int]int{}
	for _, k := range byHand() {
		met[k.width]++
		if s := bitByBit(k.xs, k.width); s != k.packed {
			t.Errorf("%s by %d: by hand %s, bit by bit %s", shortList(k.xs), k.width, shortText(k.packed), shortText(s))
		}
	}
	for width := range api.MaxWidth + 1 {
		if met[width] < 2 {
			t.Errorf("width %d: %d", width, met[width])
		}
	}
}

func TestNoNumbers(t *testing.T) {
	for width := range api.MaxWidth + 1 {
		packs(t, nil, width, "")
		packs(t, []int{}, width, "")
		packs(t, []int{-1, 1 << 20}[:0], width, "")
		unpacks(t, "", width, nil)
		refusesToUnpack(t, "\x00", 0, width, api.ErrBitpackCut)
		refusesToUnpack(t, "\x00\x00", 0, width, api.ErrBitpackCut)
		refusesToUnpack(t, "\x01", 0, width, api.ErrBitpackCut)
	}
}

// Numbers of no bits take no bytes, however many they are.
func TestWidthNought(t *testing.T) {
	for _, many := range []int{0, 1, 2, 7, 8, 9, 255, 256, 4096, api.MaxText - 1, api.MaxText} {
		xs := make([]int, many)
		packs(t, xs, 0, "")
		unpacks(t, "", 0, xs)
		refusesToUnpack(t, "\x00", many, 0, api.ErrBitpackCut)
		refusesToUnpack(t, strings.Repeat("\x00", many+1), many, 0, api.ErrBitpackCut)
	}
}

// The greatest width is two whole bytes, the lower ahead.
func TestWidthMost(t *testing.T) {
	var xs []int
	var packed []byte
	for x := range 1 << api.MaxWidth {
		xs = append(xs, x)
		packed = append(packed, byte(x%256), byte(x/256))
		if x == 0 || x == api.MaxText/2 || x == api.MaxText-1 {
			packs(t, xs, api.MaxWidth, string(packed))
			unpacks(t, string(packed), api.MaxWidth, xs)
		}
	}
}

// A number that is a whole byte is that byte.
func TestWidthOfAByte(t *testing.T) {
	roll := dice(2)
	for size := range 300 {
		xs := rolled(roll, size, 8)
		text := make([]byte, size)
		for i, x := range xs {
			text[i] = byte(x)
		}
		packs(t, xs, 8, string(text))
		unpacks(t, string(text), 8, xs)
	}
}

// Each number that has room, alone and amid the least and the greatest.
func TestEachNumber(t *testing.T) {
	for width := range api.MaxWidth + 1 {
		most := 1<<width - 1
		for x := range 1 << width {
			thereAndBack(t, []int{x}, width)
			thereAndBack(t, []int{most, x, 0}, width)
			thereAndBack(t, []int{0, x, most, x}, width)
		}
	}
}

// As many as one after the other shifts to every place in a byte, and one of them alone that is not 0.
func TestEachPlace(t *testing.T) {
	for width := range api.MaxWidth + 1 {
		for many := range 40 {
			for at := range many {
				xs := make([]int, many)
				xs[at] = 1<<width - 1
				thereAndBack(t, xs, width)
				xs[at] = 1 << width / 2
				thereAndBack(t, xs, width)
			}
		}
	}
}

func TestRolledLists(t *testing.T) {
	roll := dice(3)
	for i := range 6000 {
		width := i % (api.MaxWidth + 1)
		thereAndBack(t, rolled(roll, int(roll()%100), width), width)
	}
}

// The longest list that Unpack answers, and the ones about its bytes' ends.
func TestLongLists(t *testing.T) {
	roll := dice(4)
	for width := range api.MaxWidth + 1 {
		for _, many := range []int{api.MaxText - 8, api.MaxText - 7, api.MaxText - 1, api.MaxText} {
			xs := rolled(roll, many, width)
			packed := bitByBit(xs, width)
			packs(t, xs, width, packed)
			unpacks(t, packed, width, xs)
			refusesToUnpack(t, packed+"\x00", many, width, api.ErrBitpackCut)
			refusesToUnpack(t, packed, api.MaxText+1, width, api.ErrBitpackRange)
			if width > 0 {
				refusesToUnpack(t, packed[:len(packed)-1], many, width, api.ErrBitpackCut)
			}
		}
	}
}

// Pack has no most: of how many there are it refuses nothing.
func TestPackOfMoreThanUnpackAnswers(t *testing.T) {
	roll := dice(5)
	for _, width := range []int{0, 1, 3, 8, 13, api.MaxWidth} {
		for _, many := range []int{api.MaxText + 1, 3*api.MaxText + 5} {
			xs := rolled(roll, many, width)
			packed := bitByBit(xs, width)
			packs(t, xs, width, packed)
			refusesToUnpack(t, packed, many, width, api.ErrBitpackRange)
		}
	}
}

// P6.1 Pack: what is refused

func TestPackRefusesWidths(t *testing.T) {
	for _, width := range wrongWidths() {
		for _, xs := range [][]int{nil, {0}, {0, 0, 0}, {1}, {1, 2, 3}, {65535}, {65536}, {math.MaxInt}} {
			refusesToPack(t, xs, width, api.ErrBitpackWidth)
		}
	}
}

// Below 0 is refused at every width, and wherever it stands.
func TestPackRefusesBelowNought(t *testing.T) {
	belows := []int{-1, -2, -3, -7, -8, -128, -256, -65535, -65536, -1 << 31, -1 << 32, -1 << 62, math.MinInt, math.MinInt + 1}
	for width := range api.MaxWidth + 1 {
		most := 1<<width - 1
		for _, below := range belows {
			refusesToPack(t, []int{below}, width, api.ErrBitpackRange)
			refusesToPack(t, []int{below, 0, most}, width, api.ErrBitpackRange)
			refusesToPack(t, []int{0, below, most}, width, api.ErrBitpackRange)
			refusesToPack(t, []int{0, most, below}, width, api.ErrBitpackRange)
			refusesToPack(t, []int{below, below}, width, api.ErrBitpackRange)
		}
	}
}

// Just width bits have room, one more has none, wherever the number stands; nor have bits far above.
func TestPackRefusesABitMore(t *testing.T) {
	for width := range api.MaxWidth + 1 {
		most := 1<<width - 1
		for many := 1; many < 20; many++ {
			xs := slices.Repeat([]int{most}, many)
			thereAndBack(t, xs, width)
			for at := range xs {
				xs[at] = most + 1
				refusesToPack(t, xs, width, api.ErrBitpackRange)
				xs[at] = 2*most + 1
				refusesToPack(t, xs, width, api.ErrBitpackRange)
				xs[at] = most
			}
		}
		for bit := width; bit < 63; bit++ {
			refusesToPack(t, []int{1 << bit}, width, api.ErrBitpackRange)
			refusesToPack(t, []int{0, most, 1<<bit | most}, width, api.ErrBitpackRange)
			refusesToPack(t, []int{1<<bit | most>>1, 0, most}, width, api.ErrBitpackRange)
		}
		refusesToPack(t, []int{math.MaxInt}, width, api.ErrBitpackRange)
	}
}

// One that is refused, last behind many that are not.
func TestPackRefusesFarBehind(t *testing.T) {
	for _, width := range []int{0, 1, 7, api.MaxWidth} {
		for _, wrong := range []int{-1, math.MinInt, 1 << width, math.MaxInt} {
			xs := make([]int, api.MaxText)
			xs[len(xs)-1] = wrong
			refusesToPack(t, xs, width, api.ErrBitpackRange)
		}
	}
}

// What is wrong behind a list's end plays no part.
func TestPackLeavesSpareRoomAside(t *testing.T) {
	xs := []int{3, 1, 2, -1, math.MaxInt, 4}
	packs(t, xs[:3], 2, "\x27")
	refusesToPack(t, xs[:4], 2, api.ErrBitpackRange)
	packs(t, xs[:0], 0, "")
	packs(t, xs[1:3], 2, "\x09")
}

// P6.1 Unpack: what is refused

func TestUnpackRefusesWidths(t *testing.T) {
	for _, width := range wrongWidths() {
		for _, many := range []int{0, 1, 2, 8, api.MaxText} {
			for _, s := range []string{"", "\x00", "\x01", "\xff\xff", strings.Repeat("\x00", 17)} {
				refusesToUnpack(t, s, many, width, api.ErrBitpackWidth)
			}
		}
	}
}

func TestUnpackRefusesManys(t *testing.T) {
	for width := range api.MaxWidth + 1 {
		for _, many := range wrongManys() {
			for _, s := range []string{"", "\x00", "\xff\xff", strings.Repeat("\x00", 17)} {
				refusesToUnpack(t, s, many, width, api.ErrBitpackRange)
			}
		}
		// With just the bytes that one more than the most would take.
		refusesToUnpack(t, strings.Repeat("\x00", sizeOf(api.MaxText+1, width)), api.MaxText+1, width, api.ErrBitpackRange)
	}
}

// One byte too few, one too many, ahead or behind, and all that are far from right.
func TestUnpackRefusesSizes(t *testing.T) {
	roll := dice(6)
	for width := range api.MaxWidth + 1 {
		for many := range 40 {
			xs := rolled(roll, many, width)
			packed := bitByBit(xs, width)
			unpacks(t, packed, width, xs)
			for _, more := range []string{"\x00", "\x01", "\xff", "\x00\x00", strings.Repeat("\x00", 50)} {
				refusesToUnpack(t, packed+more, many, width, api.ErrBitpackCut)
				refusesToUnpack(t, more+packed, many, width, api.ErrBitpackCut)
			}
			for end := range len(packed) {
				refusesToUnpack(t, packed[:end], many, width, api.ErrBitpackCut)
				refusesToUnpack(t, packed[len(packed)-end:], many, width, api.ErrBitpackCut)
			}
		}
	}
}

// Each of the bits behind the last number, alone and with the others.
func TestUnpackRefusesBitsBehind(t *testing.T) {
	roll := dice(7)
	for width := range api.MaxWidth + 1 {
		for many := range 40 {
			xs := rolled(roll, many, width)
			packed := bitByBit(xs, width)
			spare := len(packed)*8 - many*width
			for set := 1; set < 1<<spare; set++ {
				bad := []byte(packed)
				bad[len(bad)-1] |= byte(set << (8 - spare))
				refusesToUnpack(t, string(bad), many, width, api.ErrBitpackCut)
			}
		}
	}
	refusesToUnpack(t, "\x02", 1, 1, api.ErrBitpackCut)
	refusesToUnpack(t, "\x80", 7, 1, api.ErrBitpackCut)
	unpacks(t, "\x80", 1, []int{0, 0, 0, 0, 0, 0, 0, 1})
	refusesToUnpack(t, "\x88\xc6\x7a", 7, 3, api.ErrBitpackCut)
	unpacks(t, "\x88\xc6\x1a", 3, []int{0, 1, 2, 3, 4, 5, 6})
	refusesToUnpack(t, "\xff\x1f", 1, 12, api.ErrBitpackCut)
}

// Far behind, too: the bits behind of the longest list.
func TestUnpackRefusesBitsFarBehind(t *testing.T) {
	for width := 1; width <= api.MaxWidth; width++ {
		many := api.MaxText - 1
		size := sizeOf(many, width)
		for bit := many * width; bit < size*8; bit++ {
			bad := make([]byte, size)
			bad[bit/8] = 1 << (bit % 8)
			refusesToUnpack(t, string(bad), many, width, api.ErrBitpackCut)
		}
	}
}

// A text that is other numbers' plays by its own bytes: of which list it was written isn't told.
func TestUnpackAtAnotherWidth(t *testing.T) {
	unpacks(t, "\x39", 4, []int{9, 3})
	unpacks(t, "\x39", 1, []int{1, 0, 0, 1, 1, 1, 0, 0})
	unpacks(t, "\x39", 3, []int{1, 7})
	unpacks(t, "\x39", 6, []int{57})
	unpacks(t, "\x39", 7, []int{57})
	unpacks(t, "\x39", 8, []int{57})
	refusesToUnpack(t, "\x39", 1, 5, api.ErrBitpackCut)
	refusesToUnpack(t, "\x39", 2, 2, api.ErrBitpackCut)
	unpacks(t, "\x39", 2, []int{1, 2, 3})
	refusesToUnpack(t, "\x39", 1, 9, api.ErrBitpackCut)
}

// Every text of at most two bytes, at every width, of about as many numbers as it has room for.
func TestShortTexts(t *testing.T) {
	texts := []string{""}
	for a := range 256 {
		texts = append(texts, string([]byte{byte(a)}))
	}
	for a := range 256 {
		for b := 0; b < 256; b += 1 + b%3 {
			texts = append(texts, string([]byte{byte(a), byte(b)}))
		}
	}
	for width := range api.MaxWidth + 1 {
		for _, s := range texts {
			most := len(s) * 8 / max(width, 1)
			for many := max(most-1, 0); many < most+2; many++ {
				judged(t, s, many, width)
			}
		}
	}
}

func TestRolledTexts(t *testing.T) {
	roll := dice(8)
	for i := range 20000 {
		width := int(roll() % (api.MaxWidth + 1))
		many := int(roll() % 30)
		text := make([]byte, max(0, sizeOf(many, width)+int(roll()%4)/3-int(roll()%4)/3))
		for k := range text {
			text[k] = byte(roll())
		}
		// Half of the last bytes are low, so that the bits behind are 0 often enough.
		if len(text) > 0 && i%2 == 0 {
			text[len(text)-1] >>= roll() % 9
		}
		judged(t, string(text), many, width)
	}
}

// R6: which error it is where several apply

func TestWidthIsAskedFirst(t *testing.T) {
	for _, width := range wrongWidths() {
		for _, wrong := range []int{-1, math.MinInt, 1 << 17, math.MaxInt} {
			refusesToPack(t, []int{wrong}, width, api.ErrBitpackWidth)
			refusesToPack(t, []int{0, 1, wrong}, width, api.ErrBitpackWidth)
		}
		for _, many := range wrongManys() {
			refusesToUnpack(t, "", many, width, api.ErrBitpackWidth)
			refusesToUnpack(t, "\xff\xff\xff", many, width, api.ErrBitpackWidth)
		}
	}
}

func TestManyIsAskedAheadOfTheText(t *testing.T) {
	for width := range api.MaxWidth + 1 {
		for _, many := range wrongManys() {
			refusesToUnpack(t, strings.Repeat("\xff", 9), many, width, api.ErrBitpackRange)
		}
	}
	refusesToUnpack(t, "\x00", api.MaxText+1, 0, api.ErrBitpackRange)
	refusesToUnpack(t, "\x00", api.MaxText, 0, api.ErrBitpackCut)
	refusesToUnpack(t, "", -1, 1, api.ErrBitpackRange)
	refusesToUnpack(t, "", 1, 1, api.ErrBitpackCut)
}

// The rules of all calls

// R4: neither the list nor what stands ahead of it or in its spare room is written to.
func TestListsStayAsTheyWere(t *testing.T) {
	roll := dice(9)
	for width := range api.MaxWidth + 1 {
		for many := range 20 {
			held := slices.Concat([]int{-7, 70000}, rolled(roll, many, width), []int{-9, 90000, 3})
			was := slices.Clone(held)
			given := held[2 : 2+many]
			bitpack.Pack(given, width)
			bitpack.Pack(given, width-1)
			bitpack.Pack(given, api.MaxWidth+1)
			bitpack.Pack(held, width)
			if !slices.Equal(held, was) {
				t.Errorf("%s became %s", shortList(was), shortList(held))
			}
		}
	}
}

// R4: the text's memory is the test's own, so that a byte written to it would be seen.
func TestTextsStayAsTheyWere(t *testing.T) {
	roll := dice(10)
	for width := range api.MaxWidth + 1 {
		for many := 1; many < 20; many++ {
			packed := bitByBit(rolled(roll, many, width), width) + "\xa5\x5a"
			held := []byte(packed)
			for size := range len(held) + 1 {
				bitpack.Unpack(unsafe.String(&held[0], size), many, width)
			}
			if string(held) != packed {
				t.Errorf("%s became %s", shortText(packed), shortText(string(held)))
			}
		}
	}
}

// R4: what becomes of a list or a text later on is not seen in what was answered of it.
func TestArgumentsAreNotKept(t *testing.T) {
	for _, k := range byHand() {
		given := slices.Clone(k.xs)
		s, _ := bitpack.Pack(given, k.width)
		for i := range given {
			given[i] = -1
		}
		if s != k.packed {
			t.Errorf("Pack(%s, %d) became %s", shortList(k.xs), k.width, shortText(s))
		}
		held := []byte(k.packed + "\x00")
		xs, _ := bitpack.Unpack(unsafe.String(&held[0], len(k.packed)), len(k.xs), k.width)
		for i := range held {
			held[i] ^= 0xff
		}
		if !slices.Equal(xs, k.xs) {
			t.Errorf("Unpack(%s, %d, %d) became %s", shortText(k.packed), len(k.xs), k.width, shortList(xs))
		}
	}
}

// R4: what is written into one answer, its spare room too, is not seen in another.
func TestAnswersAreApart(t *testing.T) {
	for _, k := range byHand() {
		first, _ := bitpack.Unpack(k.packed, len(k.xs), k.width)
		second, _ := bitpack.Unpack(k.packed, len(k.xs), k.width)
		all := first[:cap(first)]
		for i := range all {
			all[i] = -5
		}
		third, _ := bitpack.Unpack(k.packed, len(k.xs), k.width)
		if !slices.Equal(second, k.xs) || !slices.Equal(third, k.xs) {
			t.Errorf("Unpack(%s, %d, %d): %s, %s", shortText(k.packed), len(k.xs), k.width, shortList(second), shortList(third))
		}
		s, _ := bitpack.Pack(k.xs, k.width)
		again, _ := bitpack.Pack(k.xs, k.width)
		if len(s) > 1 && unsafe.StringData(s) == unsafe.StringData(again) {
			t.Errorf("Pack(%s, %d): the same memory twice", shortList(k.xs), k.width)
		}
	}
}

// R5: what was asked ahead plays no part, whoever asks at the same time.
func TestSameAnswersEachTime(t *testing.T) {
	var group sync.WaitGroup
	for turn := range 8 {
		group.Go(func() {
			ks := byHand()
			for i := range 20 * len(ks) {
				k := ks[(i+turn*5)%len(ks)]
				packs(t, k.xs, k.width, k.packed)
				unpacks(t, k.packed, k.width, k.xs)
				refusesToPack(t, append(slices.Clone(k.xs), -1), k.width, api.ErrBitpackRange)
				refusesToUnpack(t, k.packed+"\x00", len(k.xs), k.width, api.ErrBitpackCut)
				if got := bitpack.Width(1 << k.width); got != k.width+1 {
					t.Errorf("Width(%d): %d", 1<<k.width, got)
				}
			}
		})
	}
	group.Wait()
}
