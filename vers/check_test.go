package vers_test

import (
	"testing"

	"lighterage/api"
	"lighterage/vers"
)

// P12.1: which versions may be.
func TestCheck(t *testing.T) {
	cases := []struct {
		v    api.Ver
		want api.Errno
	}{
		{ver(1, 1), api.OK},
		{ver(2, 3), api.OK},
		{ver(64, 1), api.OK},
		{ver(1, most), api.OK},
		{ver(64, most), api.OK},
		{ver(0, 0), api.ErrArg},
		{ver(0, 1), api.ErrArg},
		{ver(1, 0), api.ErrArg},
		{ver(65, 1), api.ErrArg},
		{ver(-1, 1), api.ErrArg},
		{ver(1, -1), api.ErrArg},
		{ver(65, 0), api.ErrArg},
		{ver(least, 1), api.ErrArg},
		{ver(most, 1), api.ErrArg},
		{ver(1, least), api.ErrArg},
		{ver(most, most), api.ErrArg},
		{ver(257, 1), api.ErrArg},
		{ver(1<<32+1, 1), api.ErrArg},
	}
	for _, c := range cases {
		if e := vers.Check(c.v); e != c.want {
			t.Errorf("Check(%v) = %d, want %d", c.v, int(e), int(c.want))
		}
	}
}

// P12.1, R5: numbers about the limits, in both places.
func TestCheckEdges(t *testing.T) {
	for _, v := range versOf(edges()...) {
		checkIs(t, v)
	}
	for n := -300; n <= 300; n++ {
		checkIs(t, ver(n, 1))
		checkIs(t, ver(1, n))
	}
}

// P12.1: which stamps may be.
func TestCheckStamp(t *testing.T) {
	cases := []struct {
		s    api.Stamp
		want api.Errno
	}{
		{stamp(1, 1, 1), api.OK},
		{stamp(5, 2, 3), api.OK},
		{stamp(most, 64, most), api.OK},
		{stamp(most, 1, 1), api.OK},
		{stamp(1, 64, most), api.OK},
		{stamp(0, 0, 0), api.ErrArg},
		{stamp(0, 1, 1), api.ErrArg},
		{stamp(-1, 1, 1), api.ErrArg},
		{stamp(least, 1, 1), api.ErrArg},
		{stamp(1, 0, 1), api.ErrArg},
		{stamp(1, 65, 1), api.ErrArg},
		{stamp(1, 1, 0), api.ErrArg},
		{stamp(1, 1, least), api.ErrArg},
		{stamp(most, 65, most), api.ErrArg},
		{stamp(0, 65, 0), api.ErrArg},
	}
	for _, c := range cases {
		if e := vers.CheckStamp(c.s); e != c.want {
			t.Errorf("CheckStamp(%v) = %d, want %d", c.s, int(e), int(c.want))
		}
	}
}

// P12.1, R5: numbers about the limits, in all three places.
func TestCheckStampEdges(t *testing.T) {
	for _, s := range stampsOf(edges()...) {
		checkStampIs(t, s)
	}
	for n := -300; n <= 300; n++ {
		checkStampIs(t, stamp(n, 1, 1))
		checkStampIs(t, stamp(1, n, 1))
		checkStampIs(t, stamp(1, 1, n))
	}
}
