package store

import (
	"lighterage/api"
	"lighterage/leb"
)

// What a record says behind a key: that its value comes, or that there is none any more.
const (
	set  = 0
	gone = 1
)

// Change is a key, its value, or that it is gone.
type Change struct {
	Key, S string
	Gone   bool
}

// valid tells whether a change may be.
func (c Change) valid() bool {
	if c.Key == "" || len(c.Key) > api.MaxKey {
		return false
	}
	if c.Gone {
		return c.S == ""
	}
	return len(c.S) <= api.MaxValue
}

// record lays changes as one record.
func record(l ...Change) (string, api.Errno) {
	var fields []leb.Field
	for _, c := range l {
		if c.Gone {
			fields = append(fields, leb.T(c.Key), leb.N(gone))
		} else {
			fields = append(fields, leb.T(c.Key), leb.N(set), leb.T(c.S))
		}
	}
	return leb.Lay(fields...)
}

// read reads the changes of a record.
func read(s string) ([]Change, api.Errno) {
	x := leb.Over(s)
	var l []Change
	for x.Left() > 0 {
		c, ok := next(x)
		if !ok {
			return nil, api.ErrForm
		}
		l = append(l, c)
	}
	// What leb finds wrong is told as what it is here: no transaction.
	if x.Err() != api.OK || len(l) == 0 {
		return nil, api.ErrForm
	}
	return l, api.OK
}

// next reads one change, and tells whether it may be.
func next(x *leb.In) (Change, bool) {
	c := Change{Key: x.T()}
	switch x.N() {
	case set:
		c.S = x.T()
	case gone:
		c.Gone = true
	default:
		return Change{}, false
	}
	return c, c.valid()
}
