package update_test

import (
	"slices"
	"testing"

	"lighterage/api"
	"lighterage/update"
)

// P16.3: the best update of each item, if the filter matches it.
func TestView(t *testing.T) {
	x, y, z := ver(1, 9), ver(2, 1), ver(2, 10)
	x4, x5 := up(x, stamp(4, 1, 9), "a/b", "xyz"), up(x, stamp(5, 2, 2), "c", "xyz")
	y1, y2 := up(y, stamp(1, 2, 1), "a", ""), gone(y, stamp(2, 1, 1), "a")
	z7, twin := up(z, stamp(7, 7, 7), "a/d", "12"), up(z, stamp(7, 7, 7), "d", "1")
	a := []api.Clause{clause("a", 0, 200)}
	small := []api.Clause{clause("", 0, 2)}
	cases := []struct {
		l    []api.Update
		f    []api.Clause
		want []api.Update
	}{
		{nil, every(), nil},
		{nil, nil, nil},
		{[]api.Update{x4}, nil, nil},
		{[]api.Update{x4}, every(), []api.Update{x4}},
		{[]api.Update{x4, x5}, every(), []api.Update{x5}},
		{[]api.Update{x5, x4}, every(), []api.Update{x5}},
		// An older one does not stand in for the best one.
		{[]api.Update{x5, x4}, a, nil},
		{[]api.Update{x4, x5}, a, nil},
		{[]api.Update{x4, y1, y2, z7}, a, []api.Update{x4, y2, z7}},
		{[]api.Update{z7, y2, y1, x4, x5}, every(), []api.Update{x5, y2, z7}},
		{[]api.Update{z7, y2, y1, x4, x5}, a, []api.Update{y2, z7}},
		{[]api.Update{z7, y2, y1, x4, x5}, small, []api.Update{y2, z7}},
		{[]api.Update{y1, x4, y1}, small, []api.Update{y1}},
		// Each item once, however often its best one comes, and of several over which none wins the first one.
		{[]api.Update{x4, z7, x4, twin, x4}, every(), []api.Update{x4, z7}},
		{[]api.Update{x4, twin, z7, twin}, every(), []api.Update{x4, twin}},
		{[]api.Update{twin, z7}, a, nil},
		{[]api.Update{z7, twin}, a, []api.Update{z7}},
		// Such as may not be are updates, too.
		{[]api.Update{{}, {}}, every(), []api.Update{{}}},
		{[]api.Update{{Stamp: stamp(-1, 0, 0)}, {Stamp: stamp(-2, 0, 0)}}, every(), []api.Update{{Stamp: stamp(-1, 0, 0)}}},
	}
	for _, c := range cases {
		if v := update.View(c.l, c.f); !slices.Equal(v, c.want) {
			t.Errorf("View(%v, %v) = %v, want %v", c.l, c.f, v, c.want)
		}
		listIs(t, c.l, ver(3, 3), c.f)
	}
}

// some are updates of few items, of which some have the same stamp, and some differ in one field alone.
func some() []api.Update {
	x, y := ver(2, 1), ver(1, 2)
	return []api.Update{
		up(x, stamp(1, 1, 1), "a", ""),
		up(x, stamp(2, 1, 1), "b", "1"),
		gone(x, stamp(2, 1, 2), "a"),
		up(x, stamp(2, 2, 1), "a", "12"),
		up(x, stamp(2, 2, 1), "a/b", "12"),
		up(y, stamp(1, 1, 1), "a", ""),
		up(y, stamp(1, 1, 1), "b", ""),
		gone(ver(1, 1), stamp(9, 9, 9), "b"),
	}
}

// P16.3: all short lists of some updates, in all orders, with several filters.
func TestListsInAllOrders(t *testing.T) {
	filters := [][]api.Clause{nil, every(), {clause("a", 0, 200)}, {clause("", 0, 1)}, {clause("b", 1, 1), clause("a/b", 0, 9)}}
	for n := range 5 {
		for _, l := range lists(some(), n) {
			for _, item := range []api.Ver{ver(2, 1), ver(1, 2), ver(1, 1), ver(2, 2)} {
				bestIs(t, l, item)
			}
			for _, f := range filters {
				viewIs(t, l, f)
			}
		}
	}
}

// P16.3, R5: items in their order, whatever their numbers are.
func TestViewOrder(t *testing.T) {
	var l []api.Update
	for _, by := range edges() {
		for _, n := range edges() {
			l = append(l, up(ver(by, n), stamp(n, by, n), "a", ""), gone(ver(by, n), stamp(n, n, by), "a"))
		}
	}
	viewIs(t, l, every())
	slices.Reverse(l)
	viewIs(t, l, every())
	for step := 1; step < len(l); step += 77 {
		var other []api.Update
		for i := range l {
			other = append(other, l[(i*step)%len(l)])
		}
		viewIs(t, other, every())
	}
}

// P16.3: what is the best of an item is in the list, of that item, and no other one of the item wins over it.
func TestBestWins(t *testing.T) {
	l := some()
	for _, o := range l {
		u, is := update.Best(l, o.Item)
		if !is || u.Item != o.Item || !slices.Contains(l, u) || update.Wins(o, u) {
			t.Errorf("the best of %v is %v, %t", o.Item, u, is)
		}
	}
}

// P16.3: a view has what it is of once more: the view of it is the same, and so is that of a list with it.
func TestViewAgain(t *testing.T) {
	for _, f := range [][]api.Clause{every(), {clause("a", 0, 200)}, {clause("", 0, 1)}} {
		v := update.View(some(), f)
		if w := update.View(v, f); !slices.Equal(w, v) {
			t.Errorf("the view of %v is %v", v, w)
		}
		if w := update.View(slices.Concat(some(), v), f); !slices.Equal(w, v) {
			t.Errorf("with %v it is %v", v, w)
		}
	}
}

// R1: very long lists are no burden.
func TestLongLists(t *testing.T) {
	const many = 200000
	var wide, deep []api.Update
	for i := range many {
		n := i*7919%many + 1
		wide = append(wide, up(ver(n%64+1, n), stamp(n, 1, n), "a", ""))
		deep = append(deep, up(ver(1, 1), stamp(n, 1, n), "a", ""))
	}
	v := update.View(wide, every())
	if len(v) != many || !slices.IsSortedFunc(v, func(a, b api.Update) int {
		return slices.Compare([]int{a.Item.By, a.Item.N}, []int{b.Item.By, b.Item.N})
	}) {
		t.Errorf("a view of %d, not sorted", len(v))
	}
	if v := update.View(deep, every()); len(v) != 1 || v[0].Time != many {
		t.Errorf("the view of one item is %v", v)
	}
	if u, is := update.Best(deep, ver(1, 1)); !is || u.Time != many {
		t.Errorf("the best of one item is %v, %t", u, is)
	}
	if u, is := update.Best(wide, ver(2, 1)); !is || u.Item != ver(2, 1) {
		t.Errorf("the best of one of many items is %v, %t", u, is)
	}
}
