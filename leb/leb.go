// Package leb is layer 1: numbers and texts as bytes, see shared/doc/01-leb.md.
package leb

import "lighterage/api"

const (
	groupBits = 7   // bits of a number that a byte holds
	groupMask = 127 // those bits
	goesOn    = 128 // the bit by which another group follows
	maxGroups = 9   // as many as api.MaxCount has
)

// Field is a number, or a text.
type Field struct {
	N    int
	S    string
	Text bool
}

// N tells a number's field.
func N(n int) Field { return Field{N: n} }

// T tells a text's field.
func T(s string) Field { return Field{S: s, Text: true} }

// Lay lays fields, one behind the other.
func Lay(l ...Field) (string, api.Errno) {
	// A negative number counts ahead of too many bytes, wherever it stands.
	for _, f := range l {
		if n, _ := parts(f); n < 0 {
			return "", api.ErrRange
		}
	}
	var laid []byte
	lay := layer(&laid)
	for _, f := range l {
		if !lay(f) {
			return "", api.ErrBig
		}
	}
	return string(laid), api.OK
}

// layer makes the function that lays a field behind what is laid, and tells whether all of it is within the limit.
func layer(laid *[]byte) func(Field) bool {
	return func(f Field) bool {
		n, s := parts(f)
		// Ahead of the copy, so that no text longer than the limit is ever copied.
		if len(s) > api.MaxBlob-len(*laid) {
			return false
		}
		*laid = append(appendNumber(*laid, n), s...)
		return len(*laid) <= api.MaxBlob
	}
}

// parts tells the number that a field begins with, and the bytes behind it.
func parts(f Field) (int, string) {
	if f.Text {
		return len(f.S), f.S
	}
	return f.N, ""
}

// appendNumber lays a number that is not negative behind b.
func appendNumber(b []byte, n int) []byte {
	for n > groupMask {
		b = append(b, byte(n&groupMask)|goesOn)
		n >>= groupBits
	}
	return append(b, byte(n))
}
