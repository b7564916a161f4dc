package json

import (
	"strconv"

	"boathouse/api"
	"boathouse/utf"
)

// printer holds what is printed so far, which is never more than MaxText bytes.
type printer struct {
	out []byte
}

// value prints a value that stands so deep, if it is a list or an object.
func (p *printer) value(j api.Json, depth int) {
	switch j.Kind {
	case api.JsonNull:
		p.put("null")
	case api.JsonBool:
		p.put(strconv.FormatBool(j.B))
	case api.JsonInt:
		p.put(strconv.Itoa(j.N))
	case api.JsonText:
		checkRunes(j.S)
		p.quoted(j.S)
	case api.JsonList:
		checkDepth(depth)
		p.list(j.L, depth)
	case api.JsonObject:
		checkDepth(depth)
		checkKeys(j)
		p.object(j, depth)
	default:
		throw(api.ErrJsonForm)
	}
}

// checkRunes throws if a text is not runes alone.
func checkRunes(s string) {
	if !utf.Valid(s) {
		throw(api.ErrJsonForm)
	}
}

// checkDepth throws if a list or an object stands too deep.
func checkDepth(depth int) {
	if depth > api.MaxDepth {
		throw(api.ErrJsonDeep)
	}
}

// checkKeys throws if an object's keys are at fault: it is told of the object, ahead of what its values tell.
func checkKeys(j api.Json) {
	if len(j.Keys) != len(j.L) {
		throw(api.ErrJsonForm)
	}
	for _, key := range j.Keys {
		checkRunes(key)
	}
	checkUnlike(j.Keys)
}

// checkUnlike throws if one of an object's keys is told twice.
func checkUnlike(keys []string) {
	seen := make(map[string]struct{}, len(keys))
	for _, key := range keys {
		note(seen, key)
	}
}

// list prints a list's values in their row.
func (p *printer) list(values []api.Json, depth int) {
	p.put("[")
	for i, j := range values {
		if i > 0 {
			p.put(",")
		}
		p.value(j, depth+1)
	}
	p.put("]")
}

// object prints an object's keys and values in their row.
func (p *printer) object(j api.Json, depth int) {
	p.put("{")
	for i, key := range j.Keys {
		if i > 0 {
			p.put(",")
		}
		p.quoted(key)
		p.put(":")
		p.value(j.L[i], depth+1)
	}
	p.put("}")
}

// quoted prints a text that is runes alone: all that needs an escape is one byte.
func (p *printer) quoted(s string) {
	p.put(`"`)
	for i := range len(s) {
		switch c := s[i]; {
		case c == '"' || c == '\\':
			p.put(`\`)
			p.put(s[i : i+1])
		case c < ' ':
			p.put(control(c))
		default:
			p.put(s[i : i+1])
		}
	}
	p.put(`"`)
}

// control answers the escape of a byte below 32.
func control(c byte) string {
	switch c {
	case '\b':
		return `\b`
	case '\f':
		return `\f`
	case '\n':
		return `\n`
	case '\r':
		return `\r`
	case '\t':
		return `\t`
	}
	const digits = "0123456789abcdef"
	return `\u00` + digits[c>>4:c>>4+1] + digits[c&15:c&15+1]
}

// put throws at once when too much is printed: whatever comes next would tell ErrJsonLong first.
func (p *printer) put(s string) {
	p.out = append(p.out, s...)
	if len(p.out) > api.MaxText {
		throw(api.ErrJsonLong)
	}
}
