package vers_test

import (
	"slices"
	"testing"

	"lighterage/api"
	"lighterage/vers"
)

// P12.3: versions in order, each once.
func TestSort(t *testing.T) {
	cases := []struct{ l, want []api.Ver }{
		{nil, nil},
		{[]api.Ver{}, nil},
		{[]api.Ver{ver(2, 3)}, []api.Ver{ver(2, 3)}},
		{[]api.Ver{ver(1, 5), ver(2, 3)}, []api.Ver{ver(1, 5), ver(2, 3)}},
		{[]api.Ver{ver(2, 3), ver(1, 5)}, []api.Ver{ver(1, 5), ver(2, 3)}},
		{[]api.Ver{ver(2, 1), ver(1, 9), ver(2, 1)}, []api.Ver{ver(1, 9), ver(2, 1)}},
		{[]api.Ver{ver(4, 4), ver(4, 4), ver(4, 4)}, []api.Ver{ver(4, 4)}},
		{[]api.Ver{ver(3, 2), ver(3, 10), ver(3, 1), ver(3, 9)}, []api.Ver{ver(3, 1), ver(3, 2), ver(3, 9), ver(3, 10)}},
		{[]api.Ver{ver(1, 2), ver(2, 1), ver(1, 1), ver(2, 2), ver(1, 2), ver(2, 1)}, []api.Ver{ver(1, 1), ver(1, 2), ver(2, 1), ver(2, 2)}},
		// Such as are not valid stay, in their places.
		{[]api.Ver{{}}, []api.Ver{{}}},
		{[]api.Ver{{}, {}}, []api.Ver{{}}},
		{[]api.Ver{ver(65, 1), ver(1, 0), ver(0, 1), ver(1, 1), ver(-1, 7)}, []api.Ver{ver(-1, 7), ver(0, 1), ver(1, 0), ver(1, 1), ver(65, 1)}},
		{[]api.Ver{ver(most, least), ver(least, most), ver(most, most), ver(least, least)},
			[]api.Ver{ver(least, least), ver(least, most), ver(most, least), ver(most, most)}},
	}
	for _, c := range cases {
		if s := vers.Sort(c.l); !slices.Equal(s, c.want) {
			t.Errorf("Sort(%v) = %v, want %v", c.l, s, c.want)
		}
		sortIs(t, c.l)
	}
}

// P12.3: all lists of up to five of some versions, in all orders.
func TestSortAllLists(t *testing.T) {
	for many := range 6 {
		for _, l := range lists(versOf(1, 2), many) {
			sortIs(t, l)
		}
	}
	for _, l := range lists(versOf(least, 0, most), 3) {
		sortIs(t, l)
	}
	sortIs(t, versOf(edges()...))
}

// P12.3: a long list, in an order of no sense, with each version many times.
func TestSortLong(t *testing.T) {
	const many, times = 6400, 5
	var l []api.Ver
	for i := range many * times {
		// 7919 has no part in common with the 6400, so that each place comes up as often.
		place := i * 7919 % many
		l = append(l, ver(1+place/100, 1+place%100))
	}
	s := vers.Sort(l)
	if len(s) != many {
		t.Fatalf("%d versions, want %d", len(s), many)
	}
	for i, v := range s {
		if want := ver(1+i/100, 1+i%100); v != want {
			t.Fatalf("at %d stands %v, want %v", i, v, want)
		}
	}
}

// R3: what is handed in stays as it is, its spare room too, and what is answered is new memory.
func TestSortChangesNothing(t *testing.T) {
	for _, l := range [][]api.Ver{
		{ver(3, 3), ver(2, 2), ver(2, 2), ver(1, 1), ver(9, 9)},
		{ver(1, 1), ver(2, 2), ver(3, 3), ver(4, 4), ver(0, 0)},
		{ver(1, 1), ver(1, 1), ver(1, 1), ver(1, 1), ver(1, 1)},
	} {
		room := slices.Clone(l)
		first := vers.Sort(room[:4])
		kept := slices.Clone(first)
		for i := range first[:cap(first)] {
			first[:cap(first)][i] = ver(7, 7)
		}
		if !slices.Equal(room, l) {
			t.Errorf("%v became %v", l, room)
		}
		second := vers.Sort(room[:4])
		for i := range room {
			room[i] = ver(8, 8)
		}
		if !slices.Equal(second, kept) {
			t.Errorf("Sort of %v became %v, was %v", l, second, kept)
		}
	}
}
