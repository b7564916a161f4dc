package utf_test

import (
	"math"
	"strings"
	"testing"
	"unicode/utf8"

	"boathouse/api"
	"boathouse/utf"
)

// form is a rune and its bytes, written by hand.
type form struct {
	rune  int
	bytes string
}

// forms are the first and the last rune of each length, those beside the halves of pairs, and some between.
func forms() []form {
	return []form{
		{0, "\x00"}, {1, "\x01"}, {'A', "A"}, {126, "~"}, {127, "\x7f"},
		{128, "\xc2\x80"}, {191, "\xc2\xbf"}, {192, "\xc3\x80"}, {233, "\xc3\xa9"}, {2046, "\xdf\xbe"}, {2047, "\xdf\xbf"},
		{2048, "\xe0\xa0\x80"}, {4095, "\xe0\xbf\xbf"}, {4096, "\xe1\x80\x80"}, {0x65e5, "\xe6\x97\xa5"},
		{53247, "\xec\xbf\xbf"}, {53248, "\xed\x80\x80"}, {55294, "\xed\x9f\xbe"}, {55295, "\xed\x9f\xbf"},
		{57344, "\xee\x80\x80"}, {57345, "\xee\x80\x81"}, {65279, "\xef\xbb\xbf"}, {65533, "\xef\xbf\xbd"},
		{65534, "\xef\xbf\xbe"}, {65535, "\xef\xbf\xbf"},
		{65536, "\xf0\x90\x80\x80"}, {65537, "\xf0\x90\x80\x81"}, {128512, "\xf0\x9f\x98\x80"}, {262143, "\xf0\xbf\xbf\xbf"},
		{262144, "\xf1\x80\x80\x80"}, {1048575, "\xf3\xbf\xbf\xbf"}, {1048576, "\xf4\x80\x80\x80"},
		{1114110, "\xf4\x8f\xbf\xbe"}, {1114111, "\xf4\x8f\xbf\xbf"},
	}
}

// faults are texts that begin with no rune.
func faults() []string {
	return []string{
		// Bytes that begin no rune, alone and ahead of others.
		"\x80", "\x81", "\xbf", "\xf8", "\xfb", "\xfc", "\xfe", "\xff", "\x80\x80", "\xbfa", "\xff\xff", "\xfea",
		// Cut short by the end.
		"\xc2", "\xdf", "\xe0", "\xe0\xa0", "\xe6\x97", "\xef", "\xef\xbf",
		"\xf0", "\xf0\x90", "\xf0\x90\x80", "\xf4", "\xf4\x8f", "\xf4\x8f\xbf",
		// Cut short by another byte, which may well begin a rune itself.
		"\xc2a", "\xc2\xc2\x80", "\xc2\x7f", "\xc2\xc0", "\xc2\xff", "\xdf\x00",
		"\xe6a\xa5", "\xe6\x97a", "\xe6\xc2\x80", "\xe6\x97\xc2\x80", "\xe6\x7f\xa5", "\xe6\x97\x7f", "\xe6\x97\xc0", "\xe6\xe6\x97\xa5",
		"\xf0a\x98\x80", "\xf0\x9fa\x80", "\xf0\x9f\x98a", "\xf0\x7f\x98\x80", "\xf0\x9f\xc0\x80", "\xf0\x9f\x98\xff", "\xf0\xf0\x9f\x98\x80",
		// Longer than the shortest form.
		"\xc0\x80", "\xc0\xaf", "\xc1\x81", "\xc1\xbf",
		"\xe0\x80\x80", "\xe0\x81\x81", "\xe0\x82\x80", "\xe0\x9f\xbf",
		"\xf0\x80\x80\x80", "\xf0\x80\x81\x81", "\xf0\x82\x82\xac", "\xf0\x8f\xbf\xbf",
		"\xf8\x80\x80\x80\x80", "\xf8\x88\x80\x80\x80", "\xfc\x84\x80\x80\x80\x80",
		// Halves of pairs: 55296, 55297, 56319, 56320, 57342, 57343; a whole pair.
		"\xed\xa0\x80", "\xed\xa0\x81", "\xed\xaf\xbf", "\xed\xb0\x80", "\xed\xbf\xbe", "\xed\xbf\xbf", "\xed\xa0\xbd\xed\xb8\x80",
		// Beyond the last: 1114112, 1114113, 1310720, 2097151.
		"\xf4\x90\x80\x80", "\xf4\x90\x80\x81", "\xf5\x80\x80\x80", "\xf7\xbf\xbf\xbf",
	}
}

// begins asks what rune begins at a place.
func begins(t *testing.T, s string, at int, want, size int) {
	t.Helper()
	if r, n := utf.Rune(s, at); r != want || n != size {
		t.Errorf("Rune(%+.40q, %d): %d, %d, not %d, %d", s, at, r, n, want, size)
	}
}

// faulty asks for the first place that is no rune's beginning, by First and by Valid.
func faulty(t *testing.T, s string, want int) {
	t.Helper()
	if first := utf.First(s); first != want {
		t.Errorf("First(%+.40q): %d, not %d", s, first, want)
	}
	if valid := utf.Valid(s); valid != (want == -1) {
		t.Errorf("Valid(%+.40q): %v", s, valid)
	}
}

// P2.1 Rune

func TestRune(t *testing.T) {
	for _, f := range forms() {
		for _, behind := range []string{"", "a", "\xc3\xa9", "\x80", "\xbf\xbf", "\xff"} {
			begins(t, f.bytes+behind, 0, f.rune, len(f.bytes))
			begins(t, "\xff\x80"+f.bytes+behind, 2, f.rune, len(f.bytes))
		}
	}
}

func TestRuneOfFaults(t *testing.T) {
	for _, s := range faults() {
		begins(t, s, 0, 0, 0)
		begins(t, "a\xc3\xa9"+s, 3, 0, 0)
	}
}

// A rune begins nowhere but at its first byte, though a place in its midst is from 0 to the length less 1.
func TestRuneInTheMidst(t *testing.T) {
	for _, f := range forms() {
		for i := 1; i < len(f.bytes); i++ {
			begins(t, f.bytes, i, 0, 0)
			begins(t, f.bytes[:i], 0, 0, 0)
			begins(t, f.bytes[:i]+f.bytes, 0, 0, 0)
			begins(t, f.bytes[:i]+f.bytes, i, f.rune, len(f.bytes))
		}
	}
}

func TestRuneAtPlaces(t *testing.T) {
	s := "a\xc3\xa9\xe6\x97\xa5\xf0\x9f\x98\x80z"
	begins(t, s, 0, 'a', 1)
	begins(t, s, 1, 233, 2)
	begins(t, s, 3, 0x65e5, 3)
	begins(t, s, 6, 128512, 4)
	begins(t, s, len(s)-1, 'z', 1)
	for _, at := range []int{2, 4, 5, 7, 8, 9} {
		begins(t, s, at, 0, 0)
	}
	for _, text := range []string{"", "\x00", "a", "\xc3\xa9", "\xff", s, strings.Repeat("a", api.MaxText)} {
		for _, at := range []int{-1, -2, -len(text), -len(text) - 1, math.MinInt, math.MinInt + 1, len(text), len(text) + 1, 2*len(text) + 1, 1 << 32, math.MaxInt - 1, math.MaxInt} {
			if at < 0 || at >= len(text) {
				begins(t, text, at, 0, 0)
			}
		}
	}
}

// Every text of at most three bytes, and those of four whose last byte is of few: held against the library.
func TestRuneOfShortTexts(t *testing.T) {
	ask := func(text []byte) {
		s := string(text)
		wide, size := utf8.DecodeRuneInString(s)
		want := int(wide)
		if wide == utf8.RuneError && size < 2 {
			want, size = 0, 0
		}
		if r, n := utf.Rune(s, 0); r != want || n != size {
			t.Fatalf("Rune(%+q, 0): %d, %d, not %d, %d", s, r, n, want, size)
		}
	}
	ask(nil)
	edges := []byte{0, 0x7f, 0x80, 0x81, 0x8f, 0x90, 0x9f, 0xa0, 0xbf, 0xc0, 0xc2, 0xff}
	for a := range 256 {
		ask([]byte{byte(a)})
		for b := range 256 {
			ask([]byte{byte(a), byte(b)})
			for c := range 256 {
				ask([]byte{byte(a), byte(b), byte(c)})
			}
			for _, c := range edges {
				for _, d := range edges {
					ask([]byte{byte(a), byte(b), c, d})
				}
			}
		}
	}
}

// P2.1 First, Valid

func TestFirstOfRunes(t *testing.T) {
	faulty(t, "", -1)
	all := ""
	for _, f := range forms() {
		faulty(t, f.bytes, -1)
		faulty(t, "a"+f.bytes+"b", -1)
		faulty(t, f.bytes+f.bytes, -1)
		all += f.bytes
	}
	faulty(t, all, -1)
	faulty(t, "abc", -1)
	faulty(t, "boathouse \u00e9\u65e5\U0001F600\u0000\uFFFD", -1)
}

func TestFirstOfFaults(t *testing.T) {
	for _, s := range faults() {
		faulty(t, s, 0)
		for _, f := range forms() {
			faulty(t, f.bytes+s, len(f.bytes))
			faulty(t, "a"+f.bytes+f.bytes+s, 1+2*len(f.bytes))
		}
		// What stands behind the first one plays no part: more faults as little as runes.
		faulty(t, "ab"+s+"\xff", 2)
		faulty(t, "ab"+s+"c", 2)
		faulty(t, "\ufffd"+s+s, 3)
	}
}

// A rune that is cut short at the text's end is told at its first byte, not at the end.
func TestFirstOfCutRunes(t *testing.T) {
	for _, f := range forms() {
		for i := 1; i < len(f.bytes); i++ {
			faulty(t, "ab"+f.bytes[:i], 2)
			faulty(t, f.bytes+f.bytes[:i], len(f.bytes))
			faulty(t, f.bytes+f.bytes[i:], len(f.bytes))
		}
	}
}

// Every text of four bytes out of a few: held against a walk by the library.
func TestFirstOfShortTexts(t *testing.T) {
	edges := []byte{0, 'a', 0x7f, 0x80, 0x8f, 0x90, 0x9f, 0xa0, 0xbf, 0xc1, 0xc2, 0xdf, 0xe0, 0xe1, 0xed, 0xef, 0xf0, 0xf4, 0xf5, 0xf8, 0xff}
	var text [4]byte
	for _, text[0] = range edges {
		for _, text[1] = range edges {
			for _, text[2] = range edges {
				for _, text[3] = range edges {
					s := string(text[:])
					if first, want := utf.First(s), firstByLibrary(s); first != want || utf.Valid(s) != utf8.ValidString(s) {
						t.Fatalf("First(%+q): %d, not %d; Valid: %v", s, first, want, utf.Valid(s))
					}
				}
			}
		}
	}
}

func firstByLibrary(s string) int {
	for i, r := range s {
		if r == utf8.RuneError && !strings.HasPrefix(s[i:], "\ufffd") {
			return i
		}
	}
	return -1
}

func TestFirstOfLongTexts(t *testing.T) {
	for _, r := range []string{"\x00", "a", "\xc3\xa9", "\xe6\x97\xa5", "\xf0\x9f\x98\x80"} {
		s := strings.Repeat(r, 16*api.MaxText)
		faulty(t, s, -1)
		faulty(t, s+"\x80", len(s))
		faulty(t, "\x80"+s, 0)
		faulty(t, s+r[:len(r)-1]+"\xff", len(s))
		faulty(t, s+"\xe6"+s, len(s))
	}
}

// P2.1 Put

func TestPut(t *testing.T) {
	for _, f := range forms() {
		if s, e := utf.Put(f.rune); s != f.bytes || e != api.OK {
			t.Errorf("Put(%d): %+q, %d, not %+q", f.rune, s, e, f.bytes)
		}
	}
}

func TestPutOfNoRunes(t *testing.T) {
	for _, r := range []int{
		-1, -2, -128, -55296, -65536, -1114111, math.MinInt32, math.MinInt, math.MinInt + 1,
		55296, 55297, 56319, 56320, 57342, 57343,
		1114112, 1114113, 2097151, 2097152, math.MaxInt32, math.MaxUint32, math.MaxInt - 1, math.MaxInt,
		// A rune in the low bits alone.
		1<<32 + 'a', 1<<32 + 233, 1<<33 + 65536, 1<<62 + 'a', math.MinInt + 'a', -1<<32 + 'a', 256 << 16, 1 << 21,
	} {
		if s, e := utf.Put(r); s != "" || e != api.ErrUtfForm {
			t.Errorf("Put(%d): %+q, %d", r, s, e)
		}
	}
}

// Every number up to far beyond the last rune: put as the library puts it, and read again as it was.
func TestPutThereAndBack(t *testing.T) {
	for r := -1000; r <= 1<<21; r++ {
		want, code := "", api.ErrUtfForm
		if r >= 0 && r <= 55295 || r >= 57344 && r <= 1114111 {
			want, code = string(rune(r)), api.OK
		}
		s, e := utf.Put(r)
		if s != want || e != code {
			t.Fatalf("Put(%d): %+q, %d, not %+q, %d", r, s, e, want, code)
		}
		if e != api.OK {
			continue
		}
		if back, n := utf.Rune(s, 0); back != r || n != len(s) || !utf.Valid(s) || utf.First(s+"\xff") != n {
			t.Fatalf("Rune of Put(%d): %d, %d", r, back, n)
		}
	}
}
