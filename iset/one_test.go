package iset_test

import (
	"testing"

	"lighterage/api"
	"lighterage/iset"
)

// P14.1: the set of a list.
func TestOf(t *testing.T) {
	cases := []struct{ l, want []api.Ver }{
		{nil, nil},
		{[]api.Ver{}, nil},
		{items(2, 1), items(2, 1)},
		{items(2, 1, 1, 3, 2, 1), items(1, 3, 2, 1)},
		{items(1, 3, 2, 1), items(1, 3, 2, 1)},
		{items(2, 1, 1, 3), items(1, 3, 2, 1)},
		{items(1, 1, 1, 1, 1, 1), items(1, 1)},
		{items(3, 10, 3, 9, 3, 1, 3, 2), items(3, 1, 3, 2, 3, 9, 3, 10)},
		{items(10, 1, 9, 1, 1, 9, 1, 10), items(1, 9, 1, 10, 9, 1, 10, 1)},
		// Such as are no versions are elements as well.
		{items(0, 0), items(0, 0)},
		{items(0, 0, 0, 0), items(0, 0)},
		{items(65, 1, 1, 0, 0, 1, 1, 1, -1, 7), items(-1, 7, 0, 1, 1, 0, 1, 1, 65, 1)},
		{items(most, least, least, most, most, most, least, least), items(least, least, least, most, most, least, most, most)},
	}
	for _, c := range cases {
		setIs(t, "Of", iset.Of(c.l...), c.want, c.l)
		ofIs(t, c.l)
	}
	setIs(t, "Of", iset.Of(), nil)
	setIs(t, "Of", iset.Of(ver(2, 1), ver(1, 3), ver(2, 1)), items(1, 3, 2, 1))
}

// P14.1: whether an item is in a set.
func TestHas(t *testing.T) {
	cases := []struct {
		l    []api.Ver
		x    api.Ver
		want bool
	}{
		{nil, ver(1, 1), false},
		{nil, api.Ver{}, false},
		{[]api.Ver{}, api.Ver{}, false},
		{items(1, 1), ver(1, 1), true},
		{items(1, 2), ver(2, 1), false},
		{items(1, 2), ver(1, 1), false},
		{items(1, 2), ver(1, 3), false},
		{items(1, 2), ver(2, 2), false},
		{items(1, 3, 2, 1, 3, 2), ver(1, 3), true},
		{items(1, 3, 2, 1, 3, 2), ver(2, 1), true},
		{items(1, 3, 2, 1, 3, 2), ver(3, 2), true},
		{items(1, 3, 2, 1, 3, 2), ver(2, 2), false},
		{items(1, 3, 2, 1, 3, 2), ver(0, 9), false},
		{items(1, 3, 2, 1, 3, 2), ver(4, 1), false},
		// In no order, and more than once.
		{items(3, 2, 1, 3, 2, 1), ver(3, 2), true},
		{items(3, 2, 1, 3, 2, 1), ver(2, 1), true},
		{items(3, 2, 1, 3, 2, 1), ver(1, 3), true},
		{items(2, 1, 2, 1, 2, 1), ver(2, 1), true},
		{items(2, 1, 2, 1, 2, 1), ver(2, 2), false},
		// Such as are no versions are elements as well.
		{items(0, 0), ver(0, 0), true},
		{items(1, 1), ver(0, 0), false},
		{items(65, 1, -1, 4), ver(-1, 4), true},
		{items(1, 1), ver(257, 1), false},
		{items(1, 1), ver(1, 1<<32+1), false},
		{items(least, most), ver(least, most), true},
		{items(least, most), ver(most, least), false},
	}
	for _, c := range cases {
		if is := iset.Has(c.l, c.x); is != c.want {
			t.Errorf("Has(%v, %v) = %t", c.l, c.x, is)
		}
	}
}

// P14.1: the set with one more, and without one.
func TestPutAndDrop(t *testing.T) {
	cases := []struct {
		l         []api.Ver
		x         api.Ver
		put, drop []api.Ver
	}{
		{nil, ver(1, 1), items(1, 1), nil},
		{[]api.Ver{}, ver(0, 0), items(0, 0), nil},
		{items(2, 2), ver(2, 2), items(2, 2), nil},
		{items(2, 2), ver(1, 9), items(1, 9, 2, 2), items(2, 2)},
		{items(2, 2), ver(2, 1), items(2, 1, 2, 2), items(2, 2)},
		{items(2, 2), ver(2, 3), items(2, 2, 2, 3), items(2, 2)},
		{items(2, 2), ver(3, 1), items(2, 2, 3, 1), items(2, 2)},
		{items(1, 1, 2, 2, 3, 3), ver(1, 1), items(1, 1, 2, 2, 3, 3), items(2, 2, 3, 3)},
		{items(1, 1, 2, 2, 3, 3), ver(2, 2), items(1, 1, 2, 2, 3, 3), items(1, 1, 3, 3)},
		{items(1, 1, 2, 2, 3, 3), ver(3, 3), items(1, 1, 2, 2, 3, 3), items(1, 1, 2, 2)},
		{items(1, 1, 3, 3), ver(2, 2), items(1, 1, 2, 2, 3, 3), items(1, 1, 3, 3)},
		// In no order, and more than once: what is answered is a set, whether the item was there or not.
		{items(3, 3, 1, 1, 3, 3), ver(2, 2), items(1, 1, 2, 2, 3, 3), items(1, 1, 3, 3)},
		{items(3, 3, 1, 1, 3, 3), ver(1, 1), items(1, 1, 3, 3), items(3, 3)},
		{items(3, 3, 1, 1, 3, 3), ver(3, 3), items(1, 1, 3, 3), items(1, 1)},
		{items(4, 4, 4, 4, 4, 4), ver(4, 4), items(4, 4), nil},
		// Such as are no versions are elements as well.
		{items(1, 1), ver(0, 0), items(0, 0, 1, 1), items(1, 1)},
		{items(1, 1, 0, 0), ver(0, 0), items(0, 0, 1, 1), items(1, 1)},
		{items(1, 1), ver(257, 1), items(1, 1, 257, 1), items(1, 1)},
		{items(1, 1), ver(most, most), items(1, 1, most, most), items(1, 1)},
		{items(1, 1), ver(least, least), items(least, least, 1, 1), items(1, 1)},
		{items(most, most, least, least), ver(most, most), items(least, least, most, most), items(least, least)},
	}
	for _, c := range cases {
		setIs(t, "Put", iset.Put(c.l, c.x), c.put, c.l, []api.Ver{c.x})
		setIs(t, "Drop", iset.Drop(c.l, c.x), c.drop, c.l, []api.Ver{c.x})
	}
}

// P14.1: all lists of up to five of some items, in all orders, and each of them and of others.
func TestAllLists(t *testing.T) {
	asked := versOf(0, 1, 2, 3)
	for _, l := range upTo(versOf(1, 2), 5) {
		ofIs(t, l)
		for _, x := range asked {
			oneIs(t, l, x)
		}
	}
	asked = versOf(least, 0, most)
	for _, l := range lists(asked, 3) {
		ofIs(t, l)
		for _, x := range asked {
			oneIs(t, l, x)
		}
	}
}

// P14.1, R5: numbers about all limits, and of the whole range.
func TestEdges(t *testing.T) {
	l := versOf(edges()...)
	ofIs(t, l)
	for i, x := range l {
		oneIs(t, l, x)
		oneIs(t, l[i:], x)
		oneIs(t, l[:i], x)
	}
}

// P14.1: all sets of seven items, each of which stands at every place once.
func TestAllPlaces(t *testing.T) {
	some := items(1, 2, 1, 4, 1, 6, 3, 2, 3, 4, 5, 2, 64, 1)
	asked := append(versOf(0, 1, 2, 3, 4, 5, 6, 7), ver(64, 1), ver(64, 0), ver(64, 2), ver(63, 1), ver(65, 1))
	for _, s := range subsets(some) {
		ofIs(t, s)
		for _, x := range asked {
			oneIs(t, s, x)
		}
	}
}

// many is how long a long list is: too long for a call that goes through all of it for each of its items.
const many = 1 << 18

// long is a list of many items in an order of no sense: the first of a row of so many, each as often as it comes.
func long(row int) []api.Ver {
	l := make([]api.Ver, many)
	for i := range l {
		// 7919 has no part in common with the places, so that each one comes up once.
		place := i * 7919 % many % row
		l[i] = ver(1+place/1000, 1+place%1000)
	}
	return l
}

// rowIs holds a set against the items of a row from one place on, up to another one.
func rowIs(t *testing.T, call string, s []api.Ver, from, to int) {
	t.Helper()
	if len(s) != to-from {
		t.Fatalf("%s has %d items, want %d", call, len(s), to-from)
	}
	for i, x := range s {
		if want := ver(1+(from+i)/1000, 1+(from+i)%1000); x != want {
			t.Fatalf("%s has %v at %d, want %v", call, x, i, want)
		}
	}
}

// P14.1 to P14.3: very long lists.
func TestLong(t *testing.T) {
	all, half := long(many), long(many/2)
	rowIs(t, "Of", iset.Of(all...), 0, many)
	rowIs(t, "Of", iset.Of(half...), 0, many/2)
	rowIs(t, "Put", iset.Put(half, ver(1+many/2/1000, 1+many/2%1000)), 0, many/2+1)
	rowIs(t, "Drop", iset.Drop(all, ver(1, 1)), 1, many)
	rowIs(t, "Join", iset.Join(half, all), 0, many)
	rowIs(t, "Meet", iset.Meet(all, half), 0, many/2)
	rowIs(t, "Meet", iset.Meet(half, all), 0, many/2)
	rowIs(t, "Minus", iset.Minus(all, half), many/2, many)
	rowIs(t, "Minus", iset.Minus(half, all), 0, 0)
	if !iset.Within(half, all) || iset.Within(all, half) {
		t.Error("Within of a long list and its half")
	}
	if iset.Same(all, half) || iset.Same(half, all) || !iset.Same(all, iset.Of(all...)) {
		t.Error("Same of a long list and its half")
	}
	if !iset.Has(all, ver(1, 1)) || iset.Has(half, ver(1+many/2/1000, 1+many/2%1000)) {
		t.Error("Has of long lists")
	}
}
