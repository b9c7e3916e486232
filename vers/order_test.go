package vers_test

import (
	"testing"

	"lighterage/api"
	"lighterage/vers"
)

// P12.2: which of two is older.
func TestCompare(t *testing.T) {
	cases := []struct {
		a, b api.Stamp
		want int
	}{
		{stamp(5, 2, 1), stamp(5, 3, 1), -1},
		{stamp(5, 2, 1), stamp(5, 2, 1), 0},
		{stamp(5, 2, 1), stamp(6, 2, 1), -1},
		{stamp(5, 2, 1), stamp(5, 2, 2), -1},
		// The time goes ahead of all, and the replica ahead of the number.
		{stamp(5, 9, 9), stamp(6, 1, 1), -1},
		{stamp(5, 1, 9), stamp(6, 9, 1), -1},
		{stamp(5, 9, 1), stamp(6, 1, 9), -1},
		{stamp(5, 2, 9), stamp(5, 3, 1), -1},
		// Such as are not valid have their place too, at whatever distance.
		{stamp(0, 0, 0), stamp(0, 0, 0), 0},
		{stamp(0, 0, 0), stamp(1, 1, 1), -1},
		{stamp(-1, 0, 0), stamp(0, -5, 0), -1},
		{stamp(least, most, most), stamp(most, least, least), -1},
		{stamp(1, least, most), stamp(1, most, least), -1},
		{stamp(1, 1, least), stamp(1, 1, most), -1},
		{stamp(1, 1, most-1), stamp(1, 1, most), -1},
		{stamp(1, 1, 0), stamp(1, 1, 1<<32), -1},
	}
	for _, c := range cases {
		if n := vers.Compare(c.a, c.b); n != c.want {
			t.Errorf("Compare(%v, %v) = %d, want %d", c.a, c.b, n, c.want)
		}
		if n := vers.Compare(c.b, c.a); n != -c.want {
			t.Errorf("Compare(%v, %v) = %d, want %d", c.b, c.a, n, -c.want)
		}
	}
}

// P12.2, P12.5, R5: all pairs of stamps of numbers about the limits.
func TestCompareEdges(t *testing.T) {
	l := stampsOf(least, -1, 0, 1, 2, 64, 1<<32+1, most-1, most)
	for _, a := range l {
		for _, b := range l {
			compareIs(t, a, b)
		}
	}
}

// P12.5: of two different stamps exactly one is older, of the same ones none, and to be older goes on from one to the next.
func TestTotalOrder(t *testing.T) {
	l := stampsOf(least, 1, 2, most)
	older := func(a, b api.Stamp) bool { return vers.Compare(a, b) == -1 }
	for _, a := range l {
		for _, b := range l {
			if one := older(a, b) != older(b, a); one != (a != b) {
				t.Errorf("of %v and %v one is older: %t", a, b, one)
			}
			if same := vers.Compare(a, b) == 0; same != (a == b) {
				t.Errorf("%v and %v are the same: %t", a, b, same)
			}
			for _, c := range l {
				if older(a, b) && older(b, c) && !older(a, c) {
					t.Errorf("%v is older than %v, that is older than %v", a, b, c)
				}
			}
		}
	}
}

// P12.3: whether one version is ahead of another one.
func TestBefore(t *testing.T) {
	cases := []struct {
		a, b    api.Ver
		is, not bool
	}{
		{ver(1, 1), ver(1, 2), true, false},
		{ver(1, 1), ver(2, 1), true, false},
		{ver(1, 9), ver(2, 1), true, false},
		{ver(1, 1), ver(2, 9), true, false},
		{ver(2, 5), ver(2, 5), false, false},
		{ver(0, 0), ver(0, 0), false, false},
		{ver(-1, 5), ver(0, 0), true, false},
		{ver(least, most), ver(most, least), true, false},
		{ver(1, least), ver(1, most), true, false},
		{ver(64, most-1), ver(64, most), true, false},
	}
	for _, c := range cases {
		if is := vers.Before(c.a, c.b); is != c.is {
			t.Errorf("Before(%v, %v) = %t", c.a, c.b, is)
		}
		if is := vers.Before(c.b, c.a); is != c.not {
			t.Errorf("Before(%v, %v) = %t", c.b, c.a, is)
		}
	}
}

// P12.3, R5: all pairs of versions of numbers about the limits.
func TestBeforeEdges(t *testing.T) {
	l := versOf(edges()...)
	for _, a := range l {
		for _, b := range l {
			beforeIs(t, a, b)
		}
	}
}
