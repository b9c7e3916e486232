package vers_test

import (
	"slices"
	"testing"

	"lighterage/api"
	"lighterage/vers"
)

// P12.4: a time that is later than all.
func TestNext(t *testing.T) {
	cases := []struct {
		time int
		seen []int
		want int
		err  api.Errno
	}{
		{0, nil, 1, api.OK},
		{4, nil, 5, api.OK},
		{4, []int{}, 5, api.OK},
		{4, []int{9, 2}, 10, api.OK},
		{4, []int{2, 9}, 10, api.OK},
		{9, []int{4, 2}, 10, api.OK},
		{4, []int{4}, 5, api.OK},
		{4, []int{5, 5}, 6, api.OK},
		// Numbers below 0 count as 0.
		{-1, nil, 1, api.OK},
		{-1, []int{-5}, 1, api.OK},
		{-7, []int{-5, -9}, 1, api.OK},
		{least, []int{least}, 1, api.OK},
		{least, []int{3}, 4, api.OK},
		{3, []int{least}, 4, api.OK},
		{0, []int{0}, 1, api.OK},
		// The last time is one that may be; behind it there is none.
		{most - 1, nil, most, api.OK},
		{0, []int{most - 1}, most, api.OK},
		{most - 2, []int{most - 2}, most - 1, api.OK},
		{most, nil, 0, api.ErrCount},
		{0, []int{most}, 0, api.ErrCount},
		{most, []int{0}, 0, api.ErrCount},
		{least, []int{3, most, least}, 0, api.ErrCount},
		{most, []int{most}, 0, api.ErrCount},
	}
	for _, c := range cases {
		if n, e := vers.Next(c.time, c.seen...); n != c.want || e != c.err {
			t.Errorf("Next(%d, %v) = %d, %d, want %d, %d", c.time, c.seen, n, int(e), c.want, int(c.err))
		}
		nextIs(t, c.time, c.seen)
	}
}

// P12.4, R5: all lists of up to three of numbers about the limits.
func TestNextEdges(t *testing.T) {
	for many := range 4 {
		for _, seen := range lists(edges(), many) {
			for _, time := range edges() {
				nextIs(t, time, seen)
			}
		}
	}
}

// P12.4: a long list, at whatever place the latest one stands.
func TestNextPlaces(t *testing.T) {
	const many = 50
	for place := range many {
		seen := make([]int, many)
		for i := range seen {
			seen[i] = i - many/2
		}
		seen[place] = 1000
		nextIs(t, 7, seen)
		nextIs(t, 1001, seen)
		seen[place] = most
		nextIs(t, 7, seen)
	}
}

// R3: what is handed in stays as it is, its spare room too.
func TestNextChangesNothing(t *testing.T) {
	room := []int{5, -4, 3, -2, 1}
	kept := slices.Clone(room)
	vers.Next(-1, room[:3]...)
	if !slices.Equal(room, kept) {
		t.Errorf("%v became %v", kept, room)
	}
}
