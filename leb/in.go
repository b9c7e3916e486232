package leb

import (
	"strings"

	"lighterage/api"
)

// In is what is left of bytes, and an error.
type In struct {
	rest string
	err  api.Errno
}

// Over begins to read.
func Over(s string) *In { return &In{rest: s} }

// Err tells the error.
func (x *In) Err() api.Errno {
	if x == nil {
		return api.ErrNil
	}
	return x.err
}

// Left tells how many bytes are left.
func (x *In) Left() int {
	if x == nil {
		return 0
	}
	return len(x.rest)
}

// N reads a number.
func (x *In) N() int {
	if x.Err() != api.OK {
		return 0
	}
	n, e := number(x.take)
	if e != api.OK {
		x.fail(e)
	}
	return n
}

// T reads a text.
func (x *In) T() string {
	n := x.N()
	if x.Err() != api.OK {
		return ""
	}
	if n > len(x.rest) {
		x.fail(api.ErrShort)
		return ""
	}
	// A copy, so that a short text does not hold all that it was read from.
	s := strings.Clone(x.rest[:n])
	x.rest = x.rest[n:]
	return s
}

// End tells whether all was read.
func (x *In) End() api.Errno {
	if e := x.Err(); e != api.OK {
		return e
	}
	if x.Left() > 0 {
		return api.ErrForm
	}
	return api.OK
}

// take takes the next byte, if there is one.
func (x *In) take() (byte, bool) {
	if x.rest == "" {
		return 0, false
	}
	b := x.rest[0]
	x.rest = x.rest[1:]
	return b, true
}

// fail sets the error; nothing is left behind one.
func (x *In) fail(e api.Errno) { x.rest, x.err = "", e }

// number reads a number, byte by byte as take hands them out.
func number(take func() (byte, bool)) (int, api.Errno) {
	n := 0
	for i := range maxGroups {
		b, ok := take()
		if !ok {
			return 0, api.ErrShort
		}
		// Without this a number could have further encodings, with empty groups at its end.
		if b == 0 && i > 0 {
			return 0, api.ErrForm
		}
		n |= int(b&groupMask) << (groupBits * i)
		if b&goesOn == 0 {
			return n, api.OK
		}
	}
	return 0, api.ErrForm
}
