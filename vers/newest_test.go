package vers_test

import (
	"slices"
	"testing"

	"lighterage/api"
	"lighterage/vers"
)

// P12.2: the newest of some.
func TestNewest(t *testing.T) {
	cases := []struct {
		l    []api.Stamp
		want api.Stamp
	}{
		{[]api.Stamp{stamp(5, 2, 1)}, stamp(5, 2, 1)},
		{[]api.Stamp{stamp(5, 2, 1), stamp(5, 3, 1)}, stamp(5, 3, 1)},
		{[]api.Stamp{stamp(5, 3, 1), stamp(5, 2, 1)}, stamp(5, 3, 1)},
		{[]api.Stamp{stamp(1, 9, 9), stamp(3, 1, 1), stamp(2, 9, 9)}, stamp(3, 1, 1)},
		{[]api.Stamp{stamp(5, 2, 7), stamp(5, 2, 9), stamp(5, 2, 8)}, stamp(5, 2, 9)},
		{[]api.Stamp{stamp(5, 2, 1), stamp(5, 2, 1)}, stamp(5, 2, 1)},
		// Such as are not valid are told as well, and the zero stamp is one like the others.
		{[]api.Stamp{{}}, api.Stamp{}},
		{[]api.Stamp{{}, {}}, api.Stamp{}},
		{[]api.Stamp{stamp(-1, -1, -1)}, stamp(-1, -1, -1)},
		{[]api.Stamp{stamp(-1, 1, 1), stamp(-2, 1, 1)}, stamp(-1, 1, 1)},
		{[]api.Stamp{stamp(-1, 1, 1), {}}, api.Stamp{}},
		{[]api.Stamp{stamp(least, least, least)}, stamp(least, least, least)},
		{[]api.Stamp{stamp(most, least, 1), stamp(least, most, 1)}, stamp(most, least, 1)},
		{[]api.Stamp{stamp(7, 65, 0), stamp(7, 64, 1)}, stamp(7, 65, 0)},
	}
	for _, c := range cases {
		if s, is := vers.Newest(c.l...); s != c.want || !is {
			t.Errorf("Newest(%v) = %v, %t, want %v", c.l, s, is, c.want)
		}
		newestIs(t, c.l)
	}
}

// P12.2: of no stamps there is no newest one.
func TestNewestOfNone(t *testing.T) {
	for _, l := range [][]api.Stamp{nil, {}, stampsOf(1, 2)[:0]} {
		if s, is := vers.Newest(l...); s != (api.Stamp{}) || is {
			t.Errorf("Newest of %d stamps = %v, %t", len(l), s, is)
		}
	}
	if s, is := vers.Newest(); s != (api.Stamp{}) || is {
		t.Errorf("Newest() = %v, %t", s, is)
	}
}

// P12.2: all lists of up to four of some stamps, in all orders.
func TestNewestOfAllLists(t *testing.T) {
	for many := range 5 {
		for _, l := range lists(stampsOf(1, 2), many) {
			newestIs(t, l)
		}
	}
	for _, l := range lists(stampsOf(least, 0, most), 2) {
		newestIs(t, l)
	}
}

// P12.2: at whatever place the newest one stands.
func TestNewestPlaces(t *testing.T) {
	const many = 40
	for place := range many {
		l := make([]api.Stamp, many)
		for i := range l {
			l[i] = stamp(7, 1+i%64, 1+i)
		}
		for _, top := range []api.Stamp{stamp(8, 1, 1), stamp(7, 64, 1), stamp(7, many, many+1), stamp(most, most, most)} {
			l[place] = top
			if s, is := vers.Newest(l...); s != top || !is {
				t.Errorf("Newest with %v at %d = %v, %t", top, place, s, is)
			}
		}
	}
}

// R3: what is handed in stays as it is, its spare room too.
func TestNewestChangesNothing(t *testing.T) {
	room := stampsOf(2, 1)
	kept := slices.Clone(room)
	vers.Newest(room[1:5]...)
	if !slices.Equal(room, kept) {
		t.Errorf("%v became %v", kept, room)
	}
}
