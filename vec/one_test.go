package vec_test

import (
	"slices"
	"testing"

	"lighterage/api"
	"lighterage/vec"
)

// P13.1: a vector as it counts.
func TestClean(t *testing.T) {
	cases := []struct{ v, want api.Vec }{
		{api.Vec{}, api.Vec{}},
		{at(1, 5, 64, 2), at(1, 5, 64, 2)},
		{at(0, 5), api.Vec{}},
		{at(0, -5), api.Vec{}},
		{at(0, most, 1, 1), at(1, 1)},
		{at(1, -1, 2, 1, 64, least), at(2, 1)},
		{at(1, most, 64, most), at(1, most, 64, most)},
		{fullOf(-1), api.Vec{}},
		{fullOf(least), api.Vec{}},
	}
	for _, c := range cases {
		same(t, "Clean", vec.Clean(c.v), c.want)
		same(t, "Clean of Clean", vec.Clean(vec.Clean(c.v)), c.want)
	}
	full := fullOf(3)
	full[0] = 0
	same(t, "Clean", vec.Clean(fullOf(3)), full)
}

// P13.1: which versions a vector contains.
func TestHas(t *testing.T) {
	cases := []struct {
		v    api.Vec
		x    api.Ver
		want bool
	}{
		{at(2, 3, 1, 5), ver(2, 1), true},
		{at(2, 3, 1, 5), ver(2, 3), true},
		{at(2, 3, 1, 5), ver(2, 4), false},
		{at(2, 3, 1, 5), ver(1, 5), true},
		{at(2, 3, 1, 5), ver(1, 6), false},
		{at(2, 3, 1, 5), ver(3, 1), false},
		{at(64, 1), ver(64, 1), true},
		{at(64, most), ver(64, most), true},
		{at(64, most-1), ver(64, most), false},
		{at(1, 1), ver(1, most), false},
		// Such as are not valid are in none.
		{at(1, 5), ver(1, 0), false},
		{at(1, 5), ver(1, -1), false},
		{at(1, 5), ver(1, least), false},
		{at(0, 5), ver(0, 1), false},
		{at(0, 5), ver(0, 0), false},
		{api.Vec{}, ver(0, 0), false},
		{api.Vec{}, ver(1, 0), false},
		{fullOf(5), ver(65, 1), false},
		{fullOf(5), ver(-1, 1), false},
		{fullOf(5), ver(257, 1), false},
		{fullOf(5), ver(1<<32+1, 1), false},
		{fullOf(5), ver(least, 1), false},
		{fullOf(5), ver(most, 1), false},
		// Numbers below 0 have none.
		{at(1, -1), ver(1, -1), false},
		{at(1, -1), ver(1, -2), false},
		{at(1, -1), ver(1, 0), false},
		{at(1, -1), ver(1, 1), false},
		{at(1, least), ver(1, least), false},
		{at(1, least), ver(1, 1), false},
	}
	for _, c := range cases {
		if is := vec.Has(c.v, c.x); is != c.want {
			t.Errorf("Has(%v, %v) = %t", showing(c.v), c.x, is)
		}
	}
}

// P13.1: the smallest vector of versions.
func TestOf(t *testing.T) {
	cases := []struct {
		l    []api.Ver
		want api.Vec
	}{
		{nil, api.Vec{}},
		{[]api.Ver{}, api.Vec{}},
		{[]api.Ver{ver(2, 3)}, at(2, 3)},
		{[]api.Ver{ver(2, 3), ver(1, 5)}, at(1, 5, 2, 3)},
		{[]api.Ver{ver(1, 5), ver(1, 3)}, at(1, 5)},
		{[]api.Ver{ver(1, 3), ver(1, 5), ver(1, 4)}, at(1, 5)},
		{[]api.Ver{ver(1, 5), ver(1, 5)}, at(1, 5)},
		{[]api.Ver{ver(1, 1), ver(64, most), ver(63, 1)}, at(1, 1, 63, 1, 64, most)},
		// Such as are not valid say nothing.
		{[]api.Ver{{}}, api.Vec{}},
		{[]api.Ver{ver(0, 7)}, api.Vec{}},
		{[]api.Ver{ver(65, 7), ver(-1, 7), ver(257, 7), ver(least, 7), ver(most, 7)}, api.Vec{}},
		{[]api.Ver{ver(1, 0), ver(2, -1), ver(3, least)}, api.Vec{}},
		{[]api.Ver{ver(1, 2), ver(1, 0), ver(0, 9), ver(65, 9), ver(2, -3), ver(2, 1)}, at(1, 2, 2, 1)},
	}
	for _, c := range cases {
		same(t, "Of", vec.Of(c.l...), c.want)
		ofIs(t, c.l)
	}
	same(t, "Of", vec.Of(), api.Vec{})
}

// P13.1: all lists of up to four of some versions, in all orders.
func TestOfAllLists(t *testing.T) {
	some := []api.Ver{ver(1, 1), ver(1, 2), ver(64, 1), ver(64, 3), ver(0, 4), ver(65, 4), ver(1, 0), ver(64, -4)}
	lists := [][]api.Ver{nil}
	for range 4 {
		var longer [][]api.Ver
		for _, l := range lists {
			ofIs(t, l)
			for _, x := range some {
				longer = append(longer, append(slices.Clone(l), x))
			}
		}
		lists = longer
	}
	for _, l := range lists {
		ofIs(t, l)
	}
	ofIs(t, versOf(edges()...))
}

// P13.1: what Of answers contains all versions that are valid, and whatever vector contains them covers it.
func TestOfIsSmallest(t *testing.T) {
	small := vectors([]int{0, 1, 2, 64}, []int{-1, 0, 1, 2})
	for i, v := range small {
		l := near(v)[i%200:][:25]
		of := vec.Of(l...)
		for _, x := range l {
			if vec.Has(of, x) != modelValid(x) {
				t.Errorf("Of(%v) = %v; of %v", l, showing(of), x)
			}
		}
		for _, o := range append(somes(), small...) {
			all := !slices.ContainsFunc(l, func(x api.Ver) bool { return modelValid(x) && !vec.Has(o, x) })
			if all != vec.Covers(o, of) {
				t.Errorf("%v contains all of %v: %t; Of is %v", showing(o), l, all, showing(of))
			}
		}
	}
}

// P13.1: a very long list.
func TestOfLong(t *testing.T) {
	const many = 1 << 20
	l := make([]api.Ver, many)
	for i := range l {
		// 7919 has no part in common with the places, so that each one comes up once.
		place := i * 7919 % many
		l[i] = ver(place%66, place-100)
	}
	ofIs(t, l)
}

// P13.1: a vector that has a version, too.
func TestAdd(t *testing.T) {
	cases := []struct {
		v    api.Vec
		x    api.Ver
		want api.Vec
	}{
		{api.Vec{}, ver(1, 1), at(1, 1)},
		{api.Vec{}, ver(64, most), at(64, most)},
		{at(1, 5), ver(1, 3), at(1, 5)},
		{at(1, 5), ver(1, 5), at(1, 5)},
		{at(1, 5), ver(1, 9), at(1, 9)},
		{at(1, 5), ver(2, 3), at(1, 5, 2, 3)},
		{at(1, most), ver(1, 1), at(1, most)},
		{at(1, -5), ver(1, 1), at(1, 1)},
		{at(1, least), ver(2, 1), at(2, 1)},
		{at(0, 5, 1, -1, 2, 2), ver(3, 3), at(2, 2, 3, 3)},
		// Such as are not valid leave it as it counts.
		{at(1, 5, 64, 2), ver(65, 1), at(1, 5, 64, 2)},
		{at(1, 5), ver(0, 1), at(1, 5)},
		{at(1, 5), ver(1, 0), at(1, 5)},
		{at(1, 5), ver(-1, 9), at(1, 5)},
		{at(1, 5), ver(1, -9), at(1, 5)},
		{at(1, 5), ver(257, 9), at(1, 5)},
		{at(1, 5), ver(most, most), at(1, 5)},
		{at(1, 5), ver(least, most), at(1, 5)},
		{at(0, 5, 1, -1, 2, 2), ver(65, 1), at(2, 2)},
		{at(0, 5, 1, -1, 2, 2), ver(0, 9), at(2, 2)},
		{at(0, 5, 1, -1, 2, 2), ver(1, -1), at(2, 2)},
	}
	for _, c := range cases {
		same(t, "Add", vec.Add(c.v, c.x), c.want)
	}
}

// P13.1, R1, R5: versions about the limits, and about each vector's ends.
func TestHasAndAddOfAll(t *testing.T) {
	for _, v := range append(somes(), vectors([]int{0, 1, 64}, []int{least, -1, 0, 1, 2, most})...) {
		for _, x := range near(v) {
			hasIs(t, v, x)
		}
	}
}

// P13.3: the last versions, and how many there are.
func TestEndsAndSum(t *testing.T) {
	cases := []struct {
		v    api.Vec
		want []api.Ver
	}{
		{api.Vec{}, nil},
		{vec.Of(ver(2, 3), ver(1, 5)), []api.Ver{ver(1, 5), ver(2, 3)}},
		{at(64, 1, 1, 1), []api.Ver{ver(1, 1), ver(64, 1)}},
		{at(10, 1, 9, 2, 2, most), []api.Ver{ver(2, most), ver(9, 2), ver(10, 1)}},
		{at(0, 5), nil},
		{at(0, 5, 1, 6), []api.Ver{ver(1, 6)}},
		{at(1, -1, 2, least, 3, 1), []api.Ver{ver(3, 1)}},
		{fullOf(-1), nil},
		{fullOf(0), nil},
	}
	for _, c := range cases {
		if l := vec.Ends(c.v); !slices.Equal(l, c.want) {
			t.Errorf("Ends(%v) = %v, want %v", showing(c.v), l, c.want)
		}
		if n := vec.Sum(c.v); n != len(c.want) {
			t.Errorf("Sum(%v) = %d, want %d", showing(c.v), n, len(c.want))
		}
	}
	for _, n := range []int{1, most} {
		if l := vec.Ends(fullOf(n)); len(l) != 64 || l[0] != ver(1, n) || l[63] != ver(64, n) {
			t.Errorf("Ends of %d everywhere = %v", n, l)
		}
		if sum := vec.Sum(fullOf(n)); sum != 64 {
			t.Errorf("Sum of %d everywhere = %d", n, sum)
		}
	}
}

// P13.1, P13.3, R5: all calls of one vector, of many vectors.
func TestOfOne(t *testing.T) {
	for _, v := range append(somes(), vectors([]int{0, 1, 2, 64}, []int{least, -1, 0, 1, most})...) {
		oneIs(t, v)
	}
}

// R3: what is handed in stays as it is, its spare room too, and what is answered is new memory.
func TestNothingChangedOrShared(t *testing.T) {
	room := []api.Ver{ver(3, 3), ver(2, 2), ver(2, 9), ver(1, 1), ver(9, 9), ver(0, 0), ver(65, 1)}
	kept := slices.Clone(room)
	vec.Of(room[:4]...)
	if !slices.Equal(room, kept) {
		t.Errorf("%v became %v", kept, room)
	}
	v := at(0, 7, 1, 5, 2, -3, 64, 2)
	first := vec.Ends(v)
	want := slices.Clone(first)
	all := first[:cap(first)]
	for i := range all {
		all[i] = ver(8, 8)
	}
	if l := vec.Ends(v); !slices.Equal(l, want) {
		t.Errorf("Ends answers %v, and then %v", want, l)
	}
	if v != at(0, 7, 1, 5, 2, -3, 64, 2) {
		t.Errorf("the vector became %v", showing(v))
	}
}
