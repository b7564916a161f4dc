// Package value tells what counts of a value, and of which kinds a column's are: see DOC.md, chapters 7 and 9.
package value

import (
	"strings"

	"boathouse/api"
)

// Plain answers a value with its kind's field alone, null for a kind that there
// is none of. So values are one just where their plain ones are equal.
func Plain(v api.Value) api.Value {
	switch v.Kind {
	case api.KindInt:
		return api.Value{Kind: api.KindInt, I: v.I}
	case api.KindBool:
		return api.Value{Kind: api.KindBool, B: v.B}
	case api.KindText:
		return api.Value{Kind: api.KindText, S: v.S}
	}
	return api.Value{}
}

// IsKind tells whether a column may be of a kind: null is none of a column's own.
func IsKind(kind int) bool {
	return kind == api.KindInt || kind == api.KindBool || kind == api.KindText
}

// IsNull tells whether a value is null, of a kind that there is none of too.
func IsNull(v api.Value) bool {
	return Plain(v) == api.Value{}
}

// IsOf tells whether a column of a kind may hold a value: null or one of that kind.
func IsOf(v api.Value, kind int) bool {
	return IsNull(v) || v.Kind == kind
}

// Copy answers a value's plain one, its text in memory of its own.
func Copy(v api.Value) api.Value {
	plain := Plain(v)
	plain.S = strings.Clone(plain.S)
	return plain
}
