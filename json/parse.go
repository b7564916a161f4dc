package json

import (
	"math"
	"strings"

	"boathouse/api"
	"boathouse/utf"
)

// The halves of pairs that \u tells, and the first rune that needs a pair.
const (
	firstHigh   = 0xD800
	firstLow    = 0xDC00
	lastLow     = 0xDFFF
	halfBits    = 10
	firstPaired = 0x10000
)

// parser goes over a text once; what is ahead of its place is well.
type parser struct {
	text  string
	at    int
	depth int
}

// whole reads a value that is all the text.
func (p *parser) whole() api.Json {
	j := p.value()
	if p.at < len(p.text) {
		throw(api.ErrJsonForm)
	}
	return j
}

// value reads a value and the white about it.
func (p *parser) value() api.Json {
	p.skipWhite()
	j := p.bareValue()
	p.skipWhite()
	return j
}

// bareValue knows by the first byte what is to come.
func (p *parser) bareValue() api.Json {
	switch p.peek() {
	case '[':
		return p.list()
	case '{':
		return p.object()
	case '"':
		return api.Json{Kind: api.JsonText, S: p.quoted()}
	case 'n':
		p.expect("null")
		return api.Json{Kind: api.JsonNull}
	case 't':
		p.expect("true")
		return api.Json{Kind: api.JsonBool, B: true}
	case 'f':
		p.expect("false")
		return api.Json{Kind: api.JsonBool}
	}
	return api.Json{Kind: api.JsonInt, N: p.number()}
}

// list reads a list from its bracket on.
func (p *parser) list() api.Json {
	j := api.Json{Kind: api.JsonList}
	p.open()
	if p.closes(']') {
		return j
	}
	for {
		j.L = append(j.L, p.value())
		if p.closes(']') {
			return j
		}
		p.expect(",")
	}
}

// object reads an object from its brace on.
func (p *parser) object() api.Json {
	j := api.Json{Kind: api.JsonObject}
	p.open()
	if p.closes('}') {
		return j
	}
	// A key that was there is a fault at its own place, ahead of the value behind it.
	seen := map[string]struct{}{}
	for {
		key := p.key()
		note(seen, key)
		j.Keys = append(j.Keys, key)
		p.expect(":")
		j.L = append(j.L, p.value())
		if p.closes('}') {
			return j
		}
		p.expect(",")
	}
}

// key reads an object's key and the white about it.
func (p *parser) key() string {
	p.skipWhite()
	key := p.quoted()
	p.skipWhite()
	return key
}

// open goes into a list or an object, and over the white that may stand in an empty one.
func (p *parser) open() {
	p.depth++
	if p.depth > api.MaxDepth {
		throw(api.ErrJsonDeep)
	}
	p.at++
	p.skipWhite()
}

// closes goes out of a list or an object, if it ends here.
func (p *parser) closes(end byte) bool {
	if p.peek() != end {
		return false
	}
	p.depth--
	p.at++
	return true
}

// quoted reads a text from its first quote to its last.
func (p *parser) quoted() string {
	p.expect(`"`)
	var out []byte
	for {
		switch p.peek() {
		case '"':
			p.at++
			return string(out)
		case '\\':
			p.at++
			out = append(out, p.escape()...)
		default:
			out = append(out, p.plainRune()...)
		}
	}
}

// plainRune reads a rune that stands for itself.
func (p *parser) plainRune() string {
	r, size := utf.Rune(p.text, p.at)
	if size == 0 || r < ' ' {
		throw(api.ErrJsonForm)
	}
	p.at += size
	return p.text[p.at-size : p.at]
}

// escape reads what stands behind a backslash, and answers the rune that it means.
func (p *parser) escape() string {
	c := p.peek()
	p.at++
	switch c {
	case '"':
		return `"`
	case '\\':
		return `\`
	case '/':
		return "/"
	case 'b':
		return "\b"
	case 'f':
		return "\f"
	case 'n':
		return "\n"
	case 'r':
		return "\r"
	case 't':
		return "\t"
	case 'u':
		return p.coded()
	}
	throw(api.ErrJsonForm)
	return ""
}

// coded reads the digits behind \u, and the other half where they are the first half of a pair.
func (p *parser) coded() string {
	r := p.fourDigits()
	if r >= firstHigh && r < firstLow {
		p.expect(`\u`)
		low := p.fourDigits()
		if low < firstLow || low > lastLow {
			throw(api.ErrJsonForm)
		}
		r = firstPaired + (r-firstHigh)<<halfBits + (low - firstLow)
	}
	// A second half that stands alone is no rune.
	s, e := utf.Put(r)
	if e != api.OK {
		throw(api.ErrJsonForm)
	}
	return s
}

// fourDigits reads a number of four digits to sixteen.
func (p *parser) fourDigits() int {
	n := 0
	for range 4 {
		n = n<<4 | hexDigit(p.peek())
		p.at++
	}
	return n
}

// hexDigit answers what a digit of either case counts.
func hexDigit(c byte) int {
	switch {
	case isDigit(c):
		return int(c - '0')
	case c >= 'a' && c <= 'f':
		return int(c-'a') + 10
	case c >= 'A' && c <= 'F':
		return int(c-'A') + 10
	}
	throw(api.ErrJsonForm)
	return 0
}

// number reads digits, and a minus ahead of them.
func (p *parser) number() int {
	minus := p.peek() == '-'
	if minus {
		p.at++
	}
	if p.peek() == '0' {
		return p.nought(minus)
	}
	n := p.digits()
	if minus {
		return int(n)
	}
	if n == math.MinInt64 {
		throw(api.ErrJsonForm)
	}
	return int(-n)
}

// nought reads a 0, which stands alone: a digit behind it is behind the value.
func (p *parser) nought(minus bool) int {
	if minus {
		throw(api.ErrJsonForm)
	}
	p.at++
	return 0
}

// digits reads at least one digit, and answers the number below 0 that they tell: the least has no twin above.
func (p *parser) digits() int64 {
	if !isDigit(p.peek()) {
		throw(api.ErrJsonForm)
	}
	n := int64(0)
	for isDigit(p.peek()) {
		d := int64(p.peek() - '0')
		if n < (math.MinInt64+d)/10 {
			throw(api.ErrJsonForm)
		}
		n = n*10 - d
		p.at++
	}
	return n
}

// isDigit tells whether a byte is a digit to ten.
func isDigit(c byte) bool {
	return c >= '0' && c <= '9'
}

// expect goes over a word that must stand here.
func (p *parser) expect(word string) {
	if !strings.HasPrefix(p.text[p.at:], word) {
		throw(api.ErrJsonForm)
	}
	p.at += len(word)
}

// skipWhite goes over white.
func (p *parser) skipWhite() {
	for isWhite(p.peek()) {
		p.at++
	}
}

// isWhite tells whether a byte may stand about values for nothing.
func isWhite(c byte) bool {
	return c == ' ' || c == '\t' || c == '\n' || c == '\r'
}

// peek answers the byte that stands here. At the end that is 0, which is well nowhere.
func (p *parser) peek() byte {
	if p.at >= len(p.text) {
		return 0
	}
	return p.text[p.at]
}
