package crc_test

import (
	"hash/crc32"
	"math/bits"
	"slices"
	"strconv"
	"strings"
	"sync"
	"testing"
	"unsafe"

	"boathouse/api"
	"boathouse/crc"
)

// known is a text and its sum, written by hand.
type known struct {
	text string
	sum  int
}

// knowns are texts whose sums are well known, and texts that were sought for their sums' bytes.
func knowns() []known {
	return []known{
		{"", 0}, {"123456789", 3421780262}, {"a", 0xe8b7be43}, {"abc", 0x352441c2},
		{"message digest", 0x20159d7f}, {"abcdefghijklmnopqrstuvwxyz", 0x4c2750bd},
		{"The quick brown fox jumps over the lazy dog", 0x414fa339},
		{"\x00", 0xd202ef8d}, {"\x00\x00", 0x41d912ff}, {"\x00\x00\x00\x00", 0x2144df1c}, {"\x01", 0xa505df1b},
		{"\x7f", 0x12b88320}, {"\x80", 0x3fba6cad}, {"\xff", 0xff000000}, {"\xff\xff\xff\xff", 0xffffffff},
		{strings.Repeat("\x00", 32), 0x190a55ad}, {strings.Repeat("\xff", 32), 0xff6cab0b},
		{"boathouse", 0x81d2c99d}, {"\xc3\xa9\xe6\x97\xa5\xf0\x9f\x98\x80", 0x2e9c18ec},
		// No bit set, though the text has bytes; the lowest alone; the highest alone; all but the highest.
		{"\x9d\x0a\xd9\x6d", 0}, {"\xdc\x0c\xa8\xb6", 1}, {"\x4e\x85\xec\x36", 0x80000000}, {"\x2c\x70\xca\xa4", 0x7fffffff},
		{"\x0f\x83\x9d\xed", 0x80000001}, {"\x08\xc1\xbe\x08", 0x80}, {"\xb7\x9d\x16\xa7", 0x100}, {"\x5f\x67\xda\x52", 0x01000000},
		// Bytes that are 0: the highest, the second, the third, the lowest, several of them.
		{"t110", 0x0034506e}, {"t359", 0x1e00f9a0}, {"t69", 0x7aa000e3}, {"t310", 0x03b08400},
		{"t46454", 0x00772c00}, {"t44194", 0x0000696c}, {"t108995", 0xad5e0000}, {"t2658788", 0xe2000000}, {"\xc5\x5c\x9d\x3e", 0x00ffff00},
		// Four bytes that are told apart.
		{"\x04\x8c\x76\xe7", 0x01020304},
		{strings.Repeat("\x00", api.MaxText), 0xd7978eeb}, {strings.Repeat("\xff", api.MaxText), 0xdeab7e4e},
		{strings.Repeat("a", api.MaxText), 0xc32091ff},
	}
}

// sealed is a text with a sum's bytes behind it, the highest first, put there without the package.
func sealed(text string, sum int) string {
	return text + string([]byte{byte(sum / 16777216), byte(sum / 65536 % 256), byte(sum / 256 % 256), byte(sum % 256)})
}

// short cuts what a fault tells.
func short(s string) string {
	if len(s) > 40 {
		return strconv.QuoteToASCII(s[:20]) + " .. " + strconv.QuoteToASCII(s[len(s)-12:])
	}
	return strconv.QuoteToASCII(s)
}

// sums asks for a text's sum, its sealed form, and the text again.
func sums(t *testing.T, text string, want int) {
	t.Helper()
	if sum := crc.Of(text); sum != want {
		t.Errorf("Of(%s): %d, not %d", short(text), sum, want)
	}
	if s := crc.Seal(text); s != sealed(text, want) {
		t.Errorf("Seal(%s): %s, not %s", short(text), short(s), short(sealed(text, want)))
	}
	opens(t, sealed(text, want), text)
}

// opens asks for the text that was sealed.
func opens(t *testing.T, s string, want string) {
	t.Helper()
	if text, e := crc.Open(s); text != want || e != api.OK {
		t.Errorf("Open(%s): %s, %d, not %s", short(s), short(text), e, short(want))
	}
}

// refuses asks for the error, and for nothing beside it.
func refuses(t *testing.T, s string) {
	t.Helper()
	if text, e := crc.Open(s); text != "" || e != api.ErrCrcForm {
		t.Errorf("Open(%s): %s, %d, not refused", short(s), short(text), e)
	}
}

// judged asks for what the library says of a text: there are cut ones that are sealed all the same, of noughts for instance.
func judged(t *testing.T, s string) {
	t.Helper()
	end := max(len(s)-4, 0)
	if s == sealed(s[:end], library(s[:end])) {
		opens(t, s, s[:end])
	} else {
		refuses(t, s)
	}
}

// library is a text's sum as the library tells it.
func library(text string) int {
	return int(crc32.ChecksumIEEE([]byte(text)))
}

// dice answers bytes that are the same in each run.
func dice(seed uint64) func() byte {
	state := seed*2 + 1
	return func() byte {
		state = state*6364136223846793005 + 1442695040888963407
		return byte(state >> 56)
	}
}

// rolled answers a text of so many bytes.
func rolled(roll func() byte, size int) string {
	text := make([]byte, size)
	for i := range text {
		text[i] = roll()
	}
	return string(text)
}

// P4.1 Of, Seal, Open: what belongs together

func TestKnownTexts(t *testing.T) {
	for _, k := range knowns() {
		sums(t, k.text, k.sum)
	}
}

// The order of the four bytes, written out.
func TestSealByHand(t *testing.T) {
	for text, want := range map[string]string{
		"":          "\x00\x00\x00\x00",
		"a":         "a\xe8\xb7\xbe\x43",
		"123456789": "123456789\xcb\xf4\x39\x26",
		"\xff":      "\xff\xff\x00\x00\x00",
		"t110":      "t110\x00\x34\x50\x6e",
		"t310":      "t310\x03\xb0\x84\x00",
		"t44194":    "t44194\x00\x00\x69\x6c",
		"t2658788":  "t2658788\xe2\x00\x00\x00",
	} {
		if s := crc.Seal(text); s != want {
			t.Errorf("Seal(%s): %s, not %s", short(text), short(s), short(want))
		}
		opens(t, want, text)
	}
}

// Every text of at most two bytes, and those of three whose bytes are at edges.
func TestShortTexts(t *testing.T) {
	sums(t, "", 0)
	for a := range 256 {
		one := string([]byte{byte(a)})
		sums(t, one, library(one))
		for b := range 256 {
			two := string([]byte{byte(a), byte(b)})
			sums(t, two, library(two))
			for _, c := range []byte{0, 1, 0x0f, 0x10, 0x7f, 0x80, 0xf0, 0xff} {
				three := string([]byte{byte(a), byte(b), c})
				sums(t, three, library(three))
			}
		}
	}
}

// Every byte at every place of a text, so that each bit counts wherever it stands.
func TestEachBitCounts(t *testing.T) {
	for _, size := range []int{1, 4, 5, 33} {
		seen := map[int]struct{}{}
		for at := range size {
			for bit := range 8 {
				text := make([]byte, size)
				text[at] = 1 << bit
				sum := crc.Of(string(text))
				if _, again := seen[sum]; again || sum != library(string(text)) {
					t.Errorf("Of a text of %d bytes, bit %d of byte %d set: %d", size, bit, at, sum)
				}
				seen[sum] = struct{}{}
			}
		}
	}
}

// Texts of all lengths about the sizes that matter.
func TestLengths(t *testing.T) {
	roll := dice(1)
	for size := range 600 {
		text := rolled(roll, size)
		sums(t, text, library(text))
	}
	for _, about := range []int{1024, 4096, 32768, api.MaxText, 2 * api.MaxText} {
		for size := about - 5; size <= about+5; size++ {
			text := rolled(roll, size)
			sums(t, text, library(text))
		}
	}
}

// The time grows with the text alone: one far beyond the sizes that may be asked is done soon.
func TestLongText(t *testing.T) {
	text := rolled(dice(2), 64*api.MaxText)
	sums(t, text, library(text))
	s := crc.Seal(text)
	refuses(t, s[1:])
	refuses(t, s[:len(s)-1])
	refuses(t, s+"\x00")
}

// A sum is from 0 to 2^32 - 1, and all of its bits come up set and unset.
func TestSumsRange(t *testing.T) {
	roll := dice(3)
	set, unset := 0, 0
	for i := range 2000 {
		sum := crc.Of(rolled(roll, i%40+1))
		if sum < 0 || bits.Len(uint(sum)) > 32 {
			t.Fatalf("sum %d", sum)
		}
		set |= sum
		unset |= ^sum & 0xffffffff
	}
	if set != 0xffffffff || unset != 0xffffffff {
		t.Errorf("bits set: %x, unset: %x", set, unset)
	}
}

// What is sealed is a text like any other: it may be sealed again.
func TestSealedAgain(t *testing.T) {
	for _, k := range knowns() {
		once := crc.Seal(k.text)
		twice := crc.Seal(once)
		opens(t, crc.Seal(twice), twice)
		opens(t, twice, once)
		opens(t, once, k.text)
	}
	opens(t, strings.Repeat("\x00", 4), "")
	// The sum of four noughts is not nought, so four more are none of theirs.
	refuses(t, strings.Repeat("\x00", 8))
	opens(t, "\x00\x00\x00\x00\x21\x44\xdf\x1c", "\x00\x00\x00\x00")
}

// P4.1 Open: what is refused

// Of fewer than four bytes none is sealed, of four the sum of nothing alone.
func TestOpenOfFewBytes(t *testing.T) {
	refuses(t, "")
	opens(t, "\x00\x00\x00\x00", "")
	for a := range 256 {
		refuses(t, string([]byte{byte(a)}))
		for b := range 256 {
			refuses(t, string([]byte{byte(a), byte(b)}))
			refuses(t, string([]byte{byte(a), byte(b), 0}))
			refuses(t, string([]byte{byte(a), 0, byte(b)}))
			refuses(t, string([]byte{0, byte(a), byte(b)}))
			if a+b > 0 {
				refuses(t, string([]byte{byte(a), byte(b), 0, 0}))
				refuses(t, string([]byte{byte(a), 0, 0, byte(b)}))
				refuses(t, string([]byte{0, byte(a), byte(b), 0}))
				refuses(t, string([]byte{0, 0, byte(a), byte(b)}))
			}
		}
	}
	// A text that is its own sum's bytes has no sum behind it yet.
	for _, s := range []string{"\xff\xff\xff\xff", "\x9d\x0a\xd9\x6d", "abc", "abcd", "\x21\x44\xdf\x1c", "\xd2\x02\xef\x8d"} {
		refuses(t, s)
	}
}

// Of five bytes each one byte has one sum.
func TestOpenOfFiveBytes(t *testing.T) {
	for a := range 256 {
		for b := range 256 {
			one, other := string([]byte{byte(a)}), string([]byte{byte(b)})
			s := sealed(one, library(other))
			if a == b {
				opens(t, s, one)
			} else {
				refuses(t, s)
			}
		}
	}
}

// Any byte turned to any other.
func TestOpenOfTurnedBytes(t *testing.T) {
	roll := dice(4)
	texts := []string{rolled(roll, 1), rolled(roll, 3), rolled(roll, 4), rolled(roll, 5), rolled(roll, 64), rolled(roll, 255)}
	for _, k := range knowns() {
		if len(k.text) < 64 {
			texts = append(texts, k.text)
		}
	}
	for _, text := range texts {
		s := []byte(crc.Seal(text))
		for at, was := range s {
			for turn := 1; turn < 256; turn++ {
				s[at] = was ^ byte(turn)
				refuses(t, string(s))
			}
			s[at] = was
		}
		opens(t, string(s), text)
	}
}

// In a text of the greatest size a byte counts at whatever place.
func TestOpenOfTurnedBytesOfLongTexts(t *testing.T) {
	s := []byte(crc.Seal(rolled(dice(5), api.MaxText)))
	places := []int{0, 1, 2, 3, 4, 255, 256, 4095, 4096, 32767, 32768, 65532}
	for at := api.MaxText - 5; at < len(s); at++ {
		places = append(places, at)
	}
	for _, at := range places {
		for bit := range 8 {
			s[at] ^= 1 << bit
			refuses(t, string(s))
			s[at] ^= 1 << bit
		}
	}
	if text, e := crc.Open(string(s)); len(text) != api.MaxText || e != api.OK {
		t.Errorf("Open: %d bytes, %d", len(text), e)
	}
}

// Cut from either end, at any place.
func TestOpenOfCutTexts(t *testing.T) {
	roll := dice(6)
	for _, text := range []string{"a", "abc", "abcd", "123456789", "boathouse", "t110", "t310", "t2658788", rolled(roll, 64), rolled(roll, 2000)} {
		s := crc.Seal(text)
		for at := range s {
			refuses(t, s[:at])
			refuses(t, s[at+1:])
		}
	}
	for _, k := range knowns() {
		if len(k.text) > 64 {
			continue
		}
		s := crc.Seal(k.text)
		for at := range s {
			judged(t, s[:at])
			judged(t, s[at+1:])
		}
	}
	// A cut behind what was sealed itself leaves what is sealed.
	inner := crc.Seal("abc")
	opens(t, crc.Seal(inner + "def")[:len(inner)], "abc")
	opens(t, strings.Repeat("\x00", 32)[:4], "")
	opens(t, strings.Repeat("\xff", 32)[:8], "\xff\xff\xff\xff")
}

// In a text of the greatest size, too.
func TestOpenOfCutLongTexts(t *testing.T) {
	s := crc.Seal(rolled(dice(10), api.MaxText))
	for _, at := range []int{1, 2, 3, 4, 5, 255, 256, 4096, 32768, api.MaxText - 4, api.MaxText - 1, api.MaxText, api.MaxText + 1, api.MaxText + 2, api.MaxText + 3} {
		refuses(t, s[:at])
		refuses(t, s[at:])
	}
	opens(t, s, s[:api.MaxText])
}

// A byte more: any, behind, ahead, and at every place between; then several.
func TestOpenOfBytesMore(t *testing.T) {
	for _, text := range []string{"", "a", "abc", "abcd", "123456789", "t110", "t310", rolled(dice(7), 40)} {
		s := crc.Seal(text)
		for at := range len(s) + 1 {
			for b := range 256 {
				refuses(t, s[:at]+string([]byte{byte(b)})+s[at:])
			}
		}
		for _, more := range []string{"\x00\x00", "\x00\x00\x00", "\x00\x00\x00\x00", "\n", s} {
			refuses(t, s+more)
		}
	}
	for _, k := range knowns() {
		for b := range 256 {
			if len(k.text) < 64 {
				judged(t, crc.Seal(k.text)+string([]byte{byte(b)}))
				judged(t, string([]byte{byte(b)})+crc.Seal(k.text))
			}
		}
	}
	opens(t, "\xff\xff\xff\xff\x00\xff\xff\xff\xff", "\xff\xff\xff\xff\x00")
}

// The four bytes in every other order.
func TestOpenOfOtherOrders(t *testing.T) {
	for _, k := range []known{{"\x04\x8c\x76\xe7", 0x01020304}, {"123456789", 3421780262}, {"a", 0xe8b7be43}, {"t359", 0x1e00f9a0}, {strings.Repeat("a", api.MaxText), 0xc32091ff}} {
		right := sealed("", k.sum)
		others := 0
		for row := range 256 {
			places := []int{row & 3, row >> 2 & 3, row >> 4 & 3, row >> 6}
			form := string([]byte{right[places[0]], right[places[1]], right[places[2]], right[places[3]]})
			if slices.Sort(places); !slices.Equal(places, []int{0, 1, 2, 3}) || form == right {
				continue
			}
			others++
			refuses(t, k.text+form)
		}
		if others != 23 {
			t.Errorf("%d other orders of %x", others, k.sum)
		}
		opens(t, k.text+right, k.text)
	}
}

// Sums that are none, though they are near: of other beginnings and ends, of other polynomials, ahead of the text.
func TestOpenOfOtherSums(t *testing.T) {
	for _, text := range []string{"a", "abc", "123456789", "boathouse", rolled(dice(8), 300)} {
		sum := library(text)
		for _, other := range []int{
			sum ^ 0xffffffff, sum + 1, sum - 1, 0, 1, 0xffffffff, int(bits.Reverse32(uint32(sum))),
			int(crc32.Checksum([]byte(text), crc32.MakeTable(crc32.Castagnoli))),
			int(crc32.Checksum([]byte(text), crc32.MakeTable(crc32.Koopman))),
			int(crc32.Update(0xffffffff, crc32.IEEETable, []byte(text))),
			library(text + "\x00"), library("\x00" + text), library(sealed(text, sum)), library(text[1:]),
		} {
			if other != sum {
				refuses(t, sealed(text, other))
			}
		}
		refuses(t, sealed("", sum)+text)
		refuses(t, text)
		refuses(t, text+text)
		refuses(t, text+strconv.Itoa(sum))
	}
}

// The rules of all calls

// The texts' memory is the test's own, so that it may write over it behind the calls.
func TestAnswersLieApart(t *testing.T) {
	for _, size := range []int{1, 4, 5, 31, 64, 300, api.MaxText} {
		text := rolled(dice(9), size)
		whole := []byte(text + "\xff\xff")
		given := unsafe.String(&whole[0], size)
		s := crc.Seal(given)
		if string(whole) != text+"\xff\xff" {
			t.Errorf("Seal of %d bytes wrote to what it was given", size)
		}
		clear(whole)
		if s != sealed(text, library(text)) {
			t.Errorf("Seal of %d bytes shares memory with what it was given", size)
		}
		held := []byte(s + "\xff\xff")
		back, e := crc.Open(unsafe.String(&held[0], len(s)))
		if string(held) != s+"\xff\xff" {
			t.Errorf("Open of %d bytes wrote to what it was given", len(s))
		}
		clear(held)
		if back != text || e != api.OK {
			t.Errorf("Open of %d bytes shares memory with what it was given, or failed: %d", len(s), e)
		}
	}
}

// What was asked ahead plays no part, whoever asks at the same time.
func TestSameAnswersEachTime(t *testing.T) {
	var group sync.WaitGroup
	for turn := range 8 {
		group.Go(func() {
			ks := knowns()
			for i := range ks {
				k := ks[(i+turn*5)%len(ks)]
				sums(t, k.text, k.sum)
				refuses(t, sealed(k.text, k.sum^1))
			}
		})
	}
	group.Wait()
}
