package json_test

import (
	library "encoding/json"
	"math"
	"slices"
	"strconv"
	"strings"
	"testing"
	"unicode/utf8"

	"boathouse/api"
	"boathouse/json"
)

// parses asks for a value.
func parses(t *testing.T, s string, want api.Json) {
	t.Helper()
	if j, e := json.Parse(s); e != api.OK || !same(j, want) {
		t.Errorf("Parse(%s): %v, %d, not %v", short(s), j, e, want)
	}
}

// refused asks for an error, and for nothing beside it.
func refused(t *testing.T, s string, want api.Errno) {
	t.Helper()
	if j, e := json.Parse(s); e != want || !same(j, api.Json{}) {
		t.Errorf("Parse(%s): %v, %d, not %d", short(s), j, e, want)
	}
}

// P3.1 each kind of value

func TestParse(t *testing.T) {
	parses(t, "null", null())
	parses(t, "true", truth(true))
	parses(t, "false", truth(false))
	parses(t, "17", num(17))
	parses(t, "-4", num(-4))
	parses(t, `"boat"`, text("boat"))
	parses(t, `""`, text(""))
	parses(t, "[]", list())
	parses(t, "{}", object(nil))
	parses(t, "[null]", list(null()))
	parses(t, `[1,"a",true,false,null,[],{}]`, list(num(1), text("a"), truth(true), truth(false), null(), list(), object(nil)))
	parses(t, `[[[1],2],[[]]]`, list(list(list(num(1)), num(2)), list(list())))
	parses(t, `{"a":1}`, object(keys("a"), num(1)))
	parses(t, `{"":null}`, object(keys(""), null()))
	parses(t, `{"b":1,"a":{"b":[{}],"":""},"c":false}`, object(keys("b", "a", "c"),
		num(1), object(keys("b", ""), list(object(nil)), text("")), truth(false)))
}

func TestParseOfNone(t *testing.T) {
	for _, s := range []string{
		"", "x", "nul", "nulll", "Null", "NULL", "n", "nil", "tru", "truee", "True", "t", "fals", "falsee", "f", "nan", "undefined", "\x00", "null\x00",
		"[", "]", "{", "}", ",", ":", "[[", "[}", "{]", "[]]", "[[]", "{}}", "[,]", "[1,]", "[,1]", "[1,,2]", "[1 2]", "[1:2]", "[1;2]", "[1", "[1,", "(1)",
		`{"a"}`, `{"a":}`, `{"a":1,}`, `{,"a":1}`, `{,}`, `{:}`, `{:1}`, `{"a" 1}`, `{"a",1}`, `{"a"::1}`, `{"a":1 "b":2}`, `{"a":1:"b":2}`, `{"a":1,,"b":2}`,
		`{"a":1`, `{"a":1,`, `{"a":`, `{"a"`, `{"a`, `{a:1}`, `{'a':1}`, `{1:1}`, `{null:1}`, `{true:1}`, `{[]:1}`, `{{}:1}`, `{"a":1]`, `["a":1]`,
		`'a'`, "`a`", `"a`, `a"`, `"`, `"""`, `"a""`, `"\"`, `"a" "b"`, "// 1", "1 // one", "/* */ 1", "# 1", "\ufeff1", "\ufeff", "...", "[...]",
	} {
		refused(t, s, api.ErrJsonForm)
	}
}

// What is cut at any place is none.
func TestParseOfCutTexts(t *testing.T) {
	s := `{ "a\n\u00e9\ud83d\ude00é" : [ null , true,false, -17 , "日" , { } ] , "b" : { "c" : [ 1 ] } }`
	if _, e := json.Parse(s); e != api.OK {
		t.Fatalf("Parse: %d", e)
	}
	for i := range len(s) {
		refused(t, s[:i], api.ErrJsonForm)
		if i > 0 {
			refused(t, s[i:], api.ErrJsonForm)
		}
	}
}

// All bytes must be used.
func TestParseOfWhatStandsBehind(t *testing.T) {
	for _, value := range []string{"null", "true", "false", "0", "17", "-1", `"a"`, "[]", "[1]", "{}", `{"a":1}`} {
		for b := range 256 {
			behind := string([]byte{byte(b)})
			white := strings.Contains(" \t\n\r", behind)
			digit := b >= '0' && b <= '9' && (value == "17" || value == "-1")
			if white || digit {
				continue
			}
			refused(t, value+behind, api.ErrJsonForm)
			refused(t, value+" "+behind, api.ErrJsonForm)
		}
		for _, behind := range []string{"null", " null", "1 1", " 1", `""`, "[]", "{}", ",1", " ,", ":1", "]", "}"} {
			refused(t, value+" "+behind, api.ErrJsonForm)
		}
	}
}

// P3.1 white

func TestParseOfWhite(t *testing.T) {
	want := object(keys("a", "b"), list(num(1), text(" x "), list(), object(nil)), null())
	parts := []string{"", "{", `"a"`, ":", "[", "1", ",", `" x "`, ",", "[", "]", ",", "{", "}", "]", ",", `"b"`, ":", "null", "}", ""}
	for _, white := range []string{" ", "\t", "\n", "\r", " \t\n\r", "\r\n\r\n", "    "} {
		for i := 1; i < len(parts); i++ {
			parses(t, strings.Join(parts[:i], "")+white+strings.Join(parts[i:], ""), want)
		}
		parses(t, strings.Join(parts, white), want)
		for _, value := range []string{"null", "true", "false", "0", "-17", `"a"`, "[]", "{}"} {
			bare, e := json.Parse(value)
			if e != api.OK {
				t.Errorf("Parse(%s): %d", value, e)
			}
			parses(t, white+value, bare)
			parses(t, value+white, bare)
			parses(t, white+value+white, bare)
		}
		refused(t, white, api.ErrJsonForm)
	}
	for i := 1; i < len(parts); i++ {
		for b := range 256 {
			// Nor what may well make a number of the parts beside it.
			if strings.Contains(" \t\n\r-0123456789", string(rune(b))) {
				continue
			}
			refused(t, strings.Join(parts[:i], "")+string([]byte{byte(b)})+strings.Join(parts[i:], ""), api.ErrJsonForm)
		}
	}
	for _, other := range []string{"\u00a0", "\u2028", "\u3000", "\ufeff", "\u0085", "\v", "\f"} {
		refused(t, other+"1", api.ErrJsonForm)
		refused(t, "1"+other, api.ErrJsonForm)
		refused(t, "["+other+"]", api.ErrJsonForm)
	}
	// No white within a word, a number, or ahead of an escape's letter.
	for _, s := range []string{"nu ll", "tr ue", "- 1", "1 0", `"\ n"`, `"\u 0041"`, "\"\t\"", "\"\n\""} {
		refused(t, s, api.ErrJsonForm)
	}
}

// P3.1 numbers

func TestParseOfNumbers(t *testing.T) {
	for _, n := range []int{0, 1, -1, 9, -9, 10, -10, 100, 909, 1 << 31, -1 << 31, 1<<53 + 1, 1e18, 922337203685477580, -922337203685477580,
		math.MaxInt64, math.MaxInt64 - 1, math.MaxInt64 - 7, math.MaxInt64 - 8, math.MinInt64, math.MinInt64 + 1, math.MinInt64 + 8, math.MinInt64 + 9} {
		parses(t, strconv.Itoa(n), num(n))
		parses(t, "["+strconv.Itoa(n)+"]", list(num(n)))
	}
	for n := -1200; n <= 1200; n++ {
		parses(t, strconv.Itoa(n), num(n))
	}
}

func TestParseOfNoNumbers(t *testing.T) {
	for _, s := range []string{
		"00", "01", "-0", "-00", "-01", "007", "-", "--1", "+1", "+0", "-+1", "1-", "1-1", "1+1", "-a", "a1", "0a", "0x10", "0b1", "0o7", "1_000", "1,000", "1 000",
		"1.0", "0.0", "-0.0", "1.", ".5", "-.5", "1e2", "1E2", "0e0", "1e+2", "1e", "e1", "Infinity", "-Infinity", "NaN", "١", "１",
		"9223372036854775808", "-9223372036854775809", "9223372036854775809", "9223372036854775810", "-9223372036854775810", "9223372036854775817",
		"10000000000000000000", "-10000000000000000000", "18446744073709551615", "18446744073709551616", "18446744073709551617", "-18446744073709551616",
		"92233720368547758070", "-92233720368547758080", "36893488147419103232", "99999999999999999999999", "-99999999999999999999999",
		"1" + strings.Repeat("0", 100), "-1" + strings.Repeat("0", 1000), strings.Repeat("1", api.MaxText), strings.Repeat("0", api.MaxText), "-" + strings.Repeat("9", api.MaxText-1),
	} {
		refused(t, s, api.ErrJsonForm)
		if len(s) < api.MaxText {
			refused(t, "["+s+"]", api.ErrJsonForm)
		}
	}
}

// P3.1 texts

// Every byte by itself, and every rune of a few bytes.
func TestParseOfPlainTexts(t *testing.T) {
	for b := range 256 {
		s := string([]byte{byte(b)})
		switch {
		case b < 32, b > 127, b == '"', b == '\\':
			refused(t, `"`+s+`"`, api.ErrJsonForm)
			refused(t, `{"a`+s+`":1}`, api.ErrJsonForm)
			refused(t, `["é`+s+`é"]`, api.ErrJsonForm)
		default:
			parses(t, `"`+s+`"`, text(s))
			parses(t, `{"a`+s+`":1}`, object(keys("a"+s), num(1)))
			parses(t, `["é`+s+`é"]`, list(text("é"+s+"é")))
		}
	}
	for r := 32; r <= 0x10ffff; r += 1 + r/500 {
		if s := string(rune(r)); r != '"' && r != '\\' && (r < 0xd800 || r > 0xdfff) {
			parses(t, `"`+s+`"`, text(s))
		}
	}
	for _, s := range []string{"\x7f", "\u0080", "\u07ff", "\u0800", "\ud7ff", "\ue000", "\ufeff", "\ufffd", "\uffff", "\U00010000", "\U0010ffff", "\u2028\u2029"} {
		parses(t, `"`+s+`"`, text(s))
	}
	for _, s := range []string{"\xc0\x80", "\xe0\x9f\xbf", "\xed\xa0\x80", "\xed\xbf\xbf", "\xf0\x8f\xbf\xbf", "\xf4\x90\x80\x80", "\xc3", "\xe6\x97", "\xf0\x9f\x98", "\xff\xfe"} {
		refused(t, `"`+s+`"`, api.ErrJsonForm)
		refused(t, `{"`+s+`":0}`, api.ErrJsonForm)
		refused(t, `"a`+s, api.ErrJsonForm)
	}
}

func TestParseOfEscapes(t *testing.T) {
	known := map[byte]string{'"': `"`, '\\': `\`, '/': "/", 'b': "\x08", 'f': "\x0c", 'n': "\x0a", 'r': "\x0d", 't': "\x09"}
	for b := range 256 {
		s := `"\` + string([]byte{byte(b)}) + `"`
		if rune, is := known[byte(b)]; is {
			parses(t, s, text(rune))
			parses(t, `["x\`+string([]byte{byte(b)})+`y"]`, list(text("x"+rune+"y")))
		} else {
			refused(t, s, api.ErrJsonForm)
		}
	}
	parses(t, `"\"\\\/\b\f\n\r\t"`, text("\"\\/\b\f\n\r\t"))
	parses(t, `"\\n\\u0041"`, text(`\n\u0041`))
	parses(t, `{"\n\"":"\/"}`, object(keys("\n\""), text("/")))
}

// Every code of four digits, of both cases: a rune, or half of a pair, which is none.
func TestParseOfCodes(t *testing.T) {
	for r := range 0x10000 {
		low := strconv.FormatInt(int64(r), 16)
		low = strings.Repeat("0", 4-len(low)) + low
		for _, s := range []string{`"\u` + low + `"`, `"\u` + strings.ToUpper(low) + `"`} {
			if r >= 0xd800 && r <= 0xdfff {
				refused(t, s, api.ErrJsonForm)
			} else {
				parses(t, s, text(string(rune(r))))
			}
		}
	}
	for _, s := range []string{`\u`, `\u1`, `\u12`, `\u123`, `\u123g`, `\ug123`, `\u12 4`, `\u-123`, `\u+123`, `\u0x12`, `\U0041`, `\u{41}`, `\x41`, `\101`, `\u１２３４`, `\u004`, `\u004\u0041`, `\u00:0`, `\u00/0`, `\u00@0`, `\u00G0`, "\\u00`0", `\u00g0`} {
		refused(t, `"`+s+`"`, api.ErrJsonForm)
		refused(t, `"`+s, api.ErrJsonForm)
	}
	parses(t, `"\u00e9\u00E9\u00eF1"`, text("éé\u00ef1"))
}

func TestParseOfPairs(t *testing.T) {
	code := func(r int) string { return `\u` + strconv.FormatInt(int64(r), 16) }
	for high := 0xd800; high <= 0xdbff; high += 31 {
		for low := 0xdc00; low <= 0xdfff; low += 33 {
			want := text(string(rune(0x10000 + (high-0xd800)*0x400 + low - 0xdc00)))
			parses(t, `"`+code(high)+code(low)+`"`, want)
			parses(t, `"`+strings.Replace(strings.ToUpper(code(high)+code(low)), "U", "u", 2)+`"`, want)
		}
	}
	parses(t, `"\ud800\udc00"`, text("\U00010000"))
	parses(t, `"\udbff\udfff"`, text("\U0010ffff"))
	parses(t, `"\uD83D\ude00x\ud83d\uDE00"`, text("😀x😀"))
	parses(t, `{"\ud83d\ude00":1}`, object(keys("😀"), num(1)))
	for _, s := range []string{
		`\ud800`, `\udbff`, `\udc00`, `\udfff`, `\ud83dx`, `x\ude00`, `\ude00\ud83d`, `\ud83d\ud83d`, `\ude00\ude00`, `\ud83d\ud83d\ude00`, `\ud83d\ude00\ude00`, `\ud83d\ude00\ud83d`,
		`\ud83d\u0041`, `\ud83d\udbff`, `\ud83d\ue000`, `\ud83d\n`, `\ud83d\\ude00`, `\ud83d \ude00`, `\ud83dude00`, `\ud83d\Ude00`, `\ud83d\ude0`, `\ud83d\ude0g`, `\ud83d\u`, `\ud83d\`, "\\ud83d\xed\xb8\x80",
	} {
		refused(t, `"`+s+`"`, api.ErrJsonForm)
		refused(t, `{"`+s+`":1}`, api.ErrJsonForm)
	}
}

// P3.1 keys

func TestParseOfKeysAlike(t *testing.T) {
	for _, s := range []string{
		`{"a":1,"a":1}`, `{"a":1,"a":2}`, `{"":1,"":2}`, `{"a":1,"b":2,"a":3}`, `{"b":1,"a":2,"c":3,"a":4}`, `[{"a":1,"a":1}]`, `{"x":{"a":1,"a":1}}`, `{"a":{},"a":{}}`,
		`{"a":1,"\u0061":2}`, `{"\u00e9":1,"é":2}`, `{"\ud83d\ude00":1,"😀":2}`, `{"\/":1,"/":2}`, `{"\n":1,"\u000a":2}`, `{"\u000A":1,"\u000a":2}`,
		`{"a":{"a":1},"a":{"a":1}}`, `{"a":1,"a"`, `{"a":1,"a":`,
	} {
		refused(t, s, api.ErrJsonForm)
	}
	parses(t, `{"a":{"a":{"a":1}},"A":[{"a":1},{"a":1}],"a ":2,"":3,"\u0000":4,"\\u0061":5}`, object(keys("a", "A", "a ", "", "\x00", `\u0061`),
		object(keys("a"), object(keys("a"), num(1))), list(object(keys("a"), num(1)), object(keys("a"), num(1))), num(2), num(3), num(4), num(5)))
	// The two forms of one letter are two texts.
	parses(t, "{\"\u00e9\":1,\"e\u0301\":2}", object(keys("\u00e9", "e\u0301"), num(1), num(2)))
}

// P3.1 depth

// shells are openings and endings that go so deep: lists alone, objects alone, both in turn.
func shells(deep int) [][2]string {
	both, ends := "", ""
	for i := range deep {
		if i%2 == 0 {
			both, ends = both+`{"a":`, "}"+ends
		} else {
			both, ends = both+" [ ", " ] "+ends
		}
	}
	return [][2]string{
		{strings.Repeat("[", deep), strings.Repeat("]", deep)},
		{strings.Repeat(`{"a":`, deep), strings.Repeat("}", deep)},
		{strings.Repeat(`[0,`, deep), strings.Repeat("]", deep)},
		{strings.Repeat(`{"a":[],"b":`, deep-1) + "[", "]" + strings.Repeat("}", deep-1)},
		{both, ends},
	}
}

func TestParseOfDeepTexts(t *testing.T) {
	for i, shell := range shells(api.MaxDepth) {
		for _, value := range []string{"null", "1", `"[[[[{{{{"`} {
			if j, e := json.Parse(shell[0] + value + shell[1]); e != api.OK || depthOf(j) != api.MaxDepth {
				t.Errorf("shell %d: %d, %d deep", i, e, depthOf(j))
			}
		}
		for _, value := range []string{"[", "{", "[]", "{}", " \n[", `{"a":1}`, "[[[[", "{]", "[\x00"} {
			refused(t, shell[0]+value+shell[1], api.ErrJsonDeep)
			refused(t, shell[0]+value, api.ErrJsonDeep)
		}
		refused(t, shell[0], api.ErrJsonForm)
		refused(t, shell[0]+"x", api.ErrJsonForm)
		refused(t, shell[0]+"1[", api.ErrJsonForm)
		refused(t, shell[0]+"1"+shell[1]+"[", api.ErrJsonForm)
	}
	for _, deep := range []int{api.MaxDepth + 1, api.MaxDepth + 2, 100, 5000} {
		for _, shell := range shells(deep) {
			refused(t, shell[0]+"1"+shell[1], api.ErrJsonDeep)
			refused(t, shell[0], api.ErrJsonDeep)
			refused(t, shell[0]+"1"+shell[1]+"x", api.ErrJsonDeep)
		}
	}
}

// depthOf answers how deep lists and objects are open in a value.
func depthOf(j api.Json) int {
	deepest := 0
	for _, x := range j.L {
		deepest = max(deepest, depthOf(x))
	}
	if j.Kind == api.JsonList || j.Kind == api.JsonObject {
		deepest++
	}
	return deepest
}

// What is closed again is not deep, however much of it stands side by side.
func TestParseOfManySideBySide(t *testing.T) {
	for _, part := range []string{"[]", "{}", `{"a":[]}`, strings.Repeat("[", 15) + strings.Repeat("]", 15)} {
		s := "[" + strings.Repeat(part+",", 1000) + part + "]"
		if j, e := json.Parse(s); e != api.OK || len(j.L) != 1001 {
			t.Errorf("%s: %d", short(s), e)
		}
		refused(t, "["+strings.Repeat(part+",", 1000)+strings.Repeat("[", 16), api.ErrJsonDeep)
		refused(t, "["+strings.Repeat(part+",", 1000)+strings.Repeat("[", 15), api.ErrJsonForm)
	}
}

// Of both errors the one that comes first.
func TestParseOfWhichComesFirst(t *testing.T) {
	deep := strings.Repeat("[", 16)
	for _, ahead := range []string{
		"x", "[x,", "[01,", "[-0,", "[1.5,", "[9223372036854775808,", "[-9223372036854775809,", "[nul,", "[nulll,", "[,", "[1,,", "[1 ", "[1", "[]", "[1]", "1", "null ", "{", "{,", "{1:", `{"a"`, `{"a",`, `{"a":1 `, `{"a":1,`,
		`{"a":1,"a":`, `{"a":1,"\u0061":`, `{"a":1,"b":2,"a":[`, `["`, "[\"\x1f\",", "[\"\xff\",", `["\x",`, `["\u12",`, `["\ud800",`, `["\udc00",`, `["\ud800\u0041",`, "[\x0c", "[}", `{"a":]`, "\ufeff",
	} {
		refused(t, ahead+deep+"[", api.ErrJsonForm)
		refused(t, ahead+deep+strings.Repeat("[", 100), api.ErrJsonForm)
	}
	for _, ahead := range []string{"[", " [ ", `{"a":`, `{"a":1,"b":`, `[0,`, `[-1,"",{},[],null,`, `[{"a":1},{"a":2},`, `["[[[[[",`, `["\ud83d\ude00\u0000",`} {
		refused(t, ahead+deep, api.ErrJsonDeep)
		for _, behind := range []string{"x", "]", "}", "\x00", "\xff", "01", `"`, ",", ":", strings.Repeat("]", 17), strings.Repeat("]", 17) + "x"} {
			refused(t, ahead+deep+behind, api.ErrJsonDeep)
		}
	}
}

// P3.1 length

func TestParseOfLongTexts(t *testing.T) {
	fill := func(s string, many int) string { return s + strings.Repeat(" ", many-len(s)) }
	for _, s := range []string{"1", "[]", `{"a":1}`, "null"} {
		want, _ := json.Parse(s)
		parses(t, fill(s, api.MaxText), want)
		parses(t, strings.Repeat("\n", api.MaxText-len(s))+s, want)
		refused(t, fill(s, api.MaxText+1), api.ErrJsonLong)
		refused(t, fill(s, 3*api.MaxText), api.ErrJsonLong)
	}
	long := strings.Repeat("x", api.MaxText-2)
	parses(t, `"`+long+`"`, text(long))
	refused(t, `"`+long+`x"`, api.ErrJsonLong)
	refused(t, strings.Repeat(" ", api.MaxText), api.ErrJsonForm)
	// Ahead of both other errors.
	refused(t, strings.Repeat(" ", api.MaxText+1), api.ErrJsonLong)
	refused(t, strings.Repeat("x", api.MaxText), api.ErrJsonForm)
	refused(t, strings.Repeat("x", api.MaxText+1), api.ErrJsonLong)
	refused(t, strings.Repeat("[", api.MaxText), api.ErrJsonDeep)
	refused(t, strings.Repeat("[", api.MaxText+1), api.ErrJsonLong)
	refused(t, strings.Repeat("\xff", 20*api.MaxText), api.ErrJsonLong)
	// Bytes count, not runes.
	refused(t, `"`+strings.Repeat("é", api.MaxText/2)+`"`, api.ErrJsonLong)
	parses(t, `"`+strings.Repeat("é", api.MaxText/2-1)+`"`, text(strings.Repeat("é", api.MaxText/2-1)))
}

// Short texts of a few parts, all of them: held against the library.
func TestParseOfShortTexts(t *testing.T) {
	parts := []string{"[", "]", "{", "}", ",", ":", `"`, "0", "1", "-", `\`, " ", `"a"`, "null", "é"}
	var ask func(string, int)
	ask = func(s string, more int) {
		byLibrary(t, s)
		if more > 0 {
			for _, part := range parts {
				ask(s+part, more-1)
			}
		}
	}
	ask("", 5)
}

// Texts that are printed, and then changed here and there: held against the library.
func TestParseOfChangedTexts(t *testing.T) {
	parts := []string{"[", "]", "{", "}", ",", ":", `"`, "0", "17", "-", `\`, " ", `"a"`, "null", "é", "\xff", "\x1f", `\u`, `\n`, `\ud83d`, `\ude00`, "[[[[[[[[[", `{"a":`, "1e5", "\t", "tru"}
	for seed := range uint64(4000) {
		roll := dice(seed)
		s, e := json.Print(rolled(roll, 1+int(seed%4)))
		if e != api.OK || len(s) > 500 {
			continue
		}
		byLibrary(t, s)
		for range 1 + roll(3) {
			at := roll(len(s) + 1)
			s = s[:at] + parts[roll(len(parts))] + s[min(len(s), at+roll(3)):]
			byLibrary(t, s)
		}
	}
}

// byLibrary asks whether a text is a value, and which, as far as the library tells it.
func byLibrary(t *testing.T, s string) {
	t.Helper()
	j, e := json.Parse(s)
	if e == api.ErrJsonDeep {
		if strings.Count(s, "[")+strings.Count(s, "{") <= api.MaxDepth || !same(j, api.Json{}) {
			t.Fatalf("Parse(%q): too deep", s)
		}
		return
	}
	want, code := api.Json{}, api.ErrJsonForm
	if library.Valid([]byte(s)) && utf8.ValidString(s) && pairsAreWhole(s) {
		d := library.NewDecoder(strings.NewReader(s))
		d.UseNumber()
		if value, fine := told(d); fine {
			want, code = value, api.OK
		}
	}
	if e != code || !same(j, want) {
		t.Fatalf("Parse(%q): %v, %d; by the library %v, %d", s, j, e, want, code)
	}
}

// told answers the value that the library's next parts tell; false: a number that is no int64, or keys that are alike.
func told(d *library.Decoder) (api.Json, bool) {
	part, err := d.Token()
	if err != nil {
		return api.Json{}, false
	}
	switch x := part.(type) {
	case bool:
		return truth(x), true
	case string:
		return text(x), true
	case library.Number:
		n, err := strconv.ParseInt(x.String(), 10, 64)
		return num(int(n)), err == nil && strconv.FormatInt(n, 10) == x.String()
	case library.Delim:
		return toldOf(d, x)
	}
	return null(), true
}

// toldOf answers a list or an object, from behind its beginning on.
func toldOf(d *library.Decoder, begins library.Delim) (api.Json, bool) {
	j := list()
	fine := true
	if begins == '{' {
		j = object(nil)
	}
	for d.More() {
		if begins == '{' {
			key, _ := told(d)
			fine = fine && !slices.Contains(j.Keys, key.S)
			j.Keys = append(j.Keys, key.S)
		}
		x, is := told(d)
		fine = fine && is
		j.L = append(j.L, x)
	}
	d.Token()
	return j, fine
}

// pairsAreWhole tells of a text that the library takes whether each half of a pair that \u tells has its other half.
func pairsAreWhole(s string) bool {
	half := false
	for i := 0; i < len(s); i++ {
		code := int64(0)
		if s[i] == '\\' {
			i++
			if s[i] == 'u' {
				code, _ = strconv.ParseInt(s[i+1:i+5], 16, 64)
				i += 4
			}
		}
		low := code >= 0xdc00 && code <= 0xdfff
		if low != half {
			return false
		}
		half = code >= 0xd800 && code <= 0xdbff
	}
	return true
}
