package iset_test

import (
	"slices"
	"testing"

	"lighterage/api"
	"lighterage/iset"
)

// P14.2: what is in one of both, in both, and in the first alone.
func TestJoinMeetMinus(t *testing.T) {
	cases := []struct{ a, b, join, meet, minus, other []api.Ver }{
		{nil, nil, nil, nil, nil, nil},
		{[]api.Ver{}, nil, nil, nil, nil, nil},
		{items(1, 1), nil, items(1, 1), nil, items(1, 1), nil},
		{items(1, 1), items(1, 1), items(1, 1), items(1, 1), nil, nil},
		{items(1, 1), items(1, 2), items(1, 1, 1, 2), nil, items(1, 1), items(1, 2)},
		{items(1, 1), items(2, 1), items(1, 1, 2, 1), nil, items(1, 1), items(2, 1)},
		{items(1, 2), items(2, 1), items(1, 2, 2, 1), nil, items(1, 2), items(2, 1)},
		{items(1, 1, 2, 2), items(2, 2, 3, 3), items(1, 1, 2, 2, 3, 3), items(2, 2), items(1, 1), items(3, 3)},
		{items(1, 1, 2, 2, 3, 3), items(2, 2), items(1, 1, 2, 2, 3, 3), items(2, 2), items(1, 1, 3, 3), nil},
		{items(1, 1, 3, 3, 5, 5), items(2, 2, 4, 4), items(1, 1, 2, 2, 3, 3, 4, 4, 5, 5), nil, items(1, 1, 3, 3, 5, 5), items(2, 2, 4, 4)},
		// In no order, and more than once.
		{items(3, 3, 1, 1, 3, 3, 2, 2), items(4, 4, 3, 3, 4, 4, 1, 1), items(1, 1, 2, 2, 3, 3, 4, 4), items(1, 1, 3, 3), items(2, 2), items(4, 4)},
		{items(2, 2, 2, 2), items(2, 2), items(2, 2), items(2, 2), nil, nil},
		{items(2, 2, 1, 1, 2, 2), nil, items(1, 1, 2, 2), nil, items(1, 1, 2, 2), nil},
		// Such as are no versions are elements as well.
		{items(0, 0, 65, 1), items(0, 0, -1, 1), items(-1, 1, 0, 0, 65, 1), items(0, 0), items(65, 1), items(-1, 1)},
		{items(1, 0, 1, 1), items(1, 0), items(1, 0, 1, 1), items(1, 0), items(1, 1), nil},
		{items(most, least, least, most), items(least, most, most, most), items(least, most, most, least, most, most), items(least, most), items(most, least), items(most, most)},
		{items(1, 1), items(257, 1, 1, 1<<32+1), items(1, 1, 1, 1<<32+1, 257, 1), nil, items(1, 1), items(1, 1<<32+1, 257, 1)},
	}
	for _, c := range cases {
		setIs(t, "Join", iset.Join(c.a, c.b), c.join, c.a, c.b)
		setIs(t, "Join", iset.Join(c.b, c.a), c.join, c.b, c.a)
		setIs(t, "Meet", iset.Meet(c.a, c.b), c.meet, c.a, c.b)
		setIs(t, "Meet", iset.Meet(c.b, c.a), c.meet, c.b, c.a)
		setIs(t, "Minus", iset.Minus(c.a, c.b), c.minus, c.a, c.b)
		setIs(t, "Minus", iset.Minus(c.b, c.a), c.other, c.b, c.a)
	}
}

// P14.3: whether all of one are in another one, and whether each is within the other.
func TestWithinAndSame(t *testing.T) {
	cases := []struct {
		a, b    []api.Ver
		is, not bool
	}{
		{nil, nil, true, true},
		{nil, []api.Ver{}, true, true},
		{nil, items(1, 1), true, false},
		{nil, items(0, 0), true, false},
		{items(1, 1), items(1, 1), true, true},
		{items(1, 1), items(1, 2), false, false},
		{items(1, 1), items(2, 1), false, false},
		{items(1, 2), items(2, 1), false, false},
		{items(1, 1), items(1, 1, 2, 2), true, false},
		{items(2, 2), items(1, 1, 2, 2), true, false},
		{items(1, 1, 3, 3), items(1, 1, 2, 2, 3, 3), true, false},
		{items(1, 1, 2, 2), items(1, 1, 3, 3), false, false},
		{items(1, 1, 2, 2), items(2, 2, 3, 3), false, false},
		// In no order, and more than once: what counts is what stands there.
		{items(2, 2, 1, 1), items(1, 1, 2, 2), true, true},
		{items(1, 1, 1, 1), items(1, 1), true, true},
		{items(1, 1, 1, 1), items(1, 1, 2, 2), true, false},
		{items(3, 3, 1, 1, 3, 3), items(1, 1, 3, 3, 1, 1), true, true},
		{items(3, 3, 1, 1, 3, 3), items(3, 3, 2, 2, 1, 1, 2, 2), true, false},
		{items(1, 1, 1, 1, 2, 2), items(1, 1, 2, 2, 2, 2), true, true},
		{items(1, 1, 2, 2, 3, 3), items(3, 3, 4, 4, 1, 1), false, false},
		// Such as are no versions are elements as well.
		{items(0, 0), items(1, 1), false, false},
		{items(0, 0), items(0, 0, 65, 1, -1, 4), true, false},
		{items(1, 0), items(1, -1), false, false},
		{items(65, 1), items(66, 1), false, false},
		{items(1, 1), items(257, 1), false, false},
		{items(least, most), items(most, least), false, false},
		{items(least, most), items(most, least, least, most), true, false},
	}
	for _, c := range cases {
		if is := iset.Within(c.a, c.b); is != c.is {
			t.Errorf("Within(%v, %v) = %t", c.a, c.b, is)
		}
		if is := iset.Within(c.b, c.a); is != c.not {
			t.Errorf("Within(%v, %v) = %t", c.b, c.a, is)
		}
		if is, other := iset.Same(c.a, c.b), iset.Same(c.b, c.a); is != (c.is && c.not) || other != is {
			t.Errorf("Same(%v, %v) = %t, the other way %t", c.a, c.b, is, other)
		}
	}
}

// P14.2, P14.3: all pairs of lists of up to three of some items, in all orders.
func TestPairsOfLists(t *testing.T) {
	l := upTo(items(1, 1, 1, 2, 2, 1, 0, 0), 3)
	for _, a := range l {
		for _, b := range l {
			twoIs(t, a, b)
		}
	}
}

// P14.2, P14.3: all pairs of sets of seven items.
func TestPairsOfSets(t *testing.T) {
	l := subsets(items(1, 2, 1, 4, 2, 1, 2, 3, 3, 2, 64, 1, 64, most))
	for _, a := range l {
		for _, b := range l {
			twoIs(t, a, b)
		}
	}
}

// P14.2, P14.3, R5: numbers about all limits, and of the whole range.
func TestPairsOfEdges(t *testing.T) {
	l := versOf(edges()...)
	back := slices.Clone(l)
	slices.Reverse(back)
	for i := 0; i <= len(l); i += 5 {
		for j := 0; j <= len(l); j += 7 {
			twoIs(t, l[i:], back[j:])
			twoIs(t, l[:i], back[j:])
			twoIs(t, back[:i], l[:j])
		}
	}
}

// P14.2, P14.3: what a list says is what its set says.
func TestListsAreTheirSets(t *testing.T) {
	l := upTo(items(3, 1, 1, 2, 2, 5), 4)
	for i, a := range l {
		for j, b := range l {
			if (i+j)%3 != 0 {
				continue
			}
			s, r := iset.Of(a...), iset.Of(b...)
			setIs(t, "Join", iset.Join(a, b), iset.Join(s, r), a, b)
			setIs(t, "Meet", iset.Meet(a, b), iset.Meet(s, r), a, b)
			setIs(t, "Minus", iset.Minus(a, b), iset.Minus(s, r), a, b)
			if iset.Within(a, b) != iset.Within(s, r) || iset.Same(a, b) != slices.Equal(s, r) {
				t.Errorf("Within or Same of %v and %v is not that of their sets", a, b)
			}
		}
	}
}

// P14.2, P14.3: Minus and Meet part a list, Join is what both have and each alone.
func TestParts(t *testing.T) {
	l := subsets(versOf(1, 2, 3)[:6])
	for _, a := range l {
		for _, b := range l {
			meet, minus, other := iset.Meet(a, b), iset.Minus(a, b), iset.Minus(b, a)
			if !iset.Same(iset.Join(meet, minus), a) || !iset.Same(iset.Join(iset.Join(minus, meet), other), iset.Join(a, b)) {
				t.Errorf("%v and %v: Meet %v, Minus %v and %v", a, b, meet, minus, other)
			}
			if len(iset.Meet(minus, b))+len(iset.Meet(minus, other)) > 0 || iset.Within(a, b) != (len(minus) == 0) {
				t.Errorf("%v and %v: Minus %v and %v", a, b, minus, other)
			}
		}
	}
}
