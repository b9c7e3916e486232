package update_test

import (
	"testing"

	"lighterage/api"
	"lighterage/update"
)

// P16.3: which of two wins.
func TestWins(t *testing.T) {
	cases := []struct {
		a, b api.Stamp
		want bool
	}{
		{stamp(5, 1, 1), stamp(4, 9, 9), true},
		{stamp(4, 9, 9), stamp(5, 1, 1), false},
		{stamp(5, 3, 1), stamp(5, 2, 9), true},
		{stamp(5, 2, 9), stamp(5, 3, 1), false},
		{stamp(5, 2, 9), stamp(5, 2, 8), true},
		{stamp(5, 2, 8), stamp(5, 2, 9), false},
		{stamp(5, 2, 9), stamp(5, 2, 9), false},
		{stamp(0, 0, 0), stamp(0, 0, 0), false},
		{stamp(most, 1, 1), stamp(least, 1, 1), true},
		{stamp(least, 1, 1), stamp(most, 1, 1), false},
		{stamp(7, most, 1), stamp(7, least, 1), true},
		{stamp(7, 1, least), stamp(7, 1, most), false},
	}
	for _, c := range cases {
		// The rest of the updates is nothing to it.
		pairs := [][2]api.Update{
			{up(ver(1, 1), c.a, "a", "x"), up(ver(1, 1), c.b, "a", "x")},
			{up(ver(1, 1), c.a, "a", "x"), up(ver(2, 2), c.b, "b", "yy")},
			{up(ver(2, 2), c.a, "b", "yy"), up(ver(1, 1), c.b, "a", "x")},
			{gone(ver(1, 1), c.a, "a"), up(ver(1, 1), c.b, "a", "x")},
			{up(ver(1, 1), c.a, "a", "x"), gone(ver(1, 1), c.b, "a")},
		}
		for _, p := range pairs {
			if is := update.Wins(p[0], p[1]); is != c.want {
				t.Errorf("Wins(%v, %v) = %t", p[0], p[1], is)
			}
			winsIs(t, p[0], p[1])
			winsIs(t, p[1], p[0])
		}
	}
}

// P16.3, R5: all pairs of stamps of numbers about the limits; of two different ones exactly one wins.
func TestWinsEdges(t *testing.T) {
	var l []api.Update
	for _, s := range lists([]int{least, -1, 0, 1, 64, 65, most}, 3) {
		l = append(l, up(ver(1, 1), stamp(s[0], s[1], s[2]), "a", ""))
	}
	for _, a := range l {
		for _, b := range l {
			winsIs(t, a, b)
			ways := 0
			for _, is := range []bool{update.Wins(a, b), update.Wins(b, a), a == b} {
				if is {
					ways++
				}
			}
			if ways != 1 {
				t.Errorf("%v and %v: %d of less, greater and same", a, b, ways)
			}
		}
	}
}

// P16.3: the best update of an item.
func TestBest(t *testing.T) {
	x, y := ver(1, 1), ver(2, 1)
	a, b, c := up(x, stamp(4, 1, 1), "a", "x"), up(x, stamp(5, 2, 9), "c", ""), gone(x, stamp(5, 2, 8), "d")
	other := up(y, stamp(9, 9, 9), "a", "y")
	twin := up(x, stamp(5, 2, 9), "e", "another one of this stamp")
	cases := []struct {
		l    []api.Update
		item api.Ver
		want api.Update
		is   bool
	}{
		{nil, x, api.Update{}, false},
		{nil, api.Ver{}, api.Update{}, false},
		{[]api.Update{a}, x, a, true},
		{[]api.Update{a}, y, api.Update{}, false},
		{[]api.Update{a}, ver(1, 2), api.Update{}, false},
		{[]api.Update{a, b}, x, b, true},
		{[]api.Update{b, a}, x, b, true},
		{[]api.Update{a, c, b}, x, b, true},
		{[]api.Update{a, c}, x, c, true},
		{[]api.Update{other, a, other}, x, a, true},
		{[]api.Update{a, other, b}, y, other, true},
		// Of several over which none wins the first one.
		{[]api.Update{a, b, twin}, x, b, true},
		{[]api.Update{a, twin, b}, x, twin, true},
		{[]api.Update{twin, b, twin, a}, x, twin, true},
		{[]api.Update{b, b}, x, b, true},
		// Such as may not be are updates, too.
		{[]api.Update{{}}, api.Ver{}, api.Update{}, true},
		{[]api.Update{{}, {Stamp: stamp(-1, 0, 0), Path: "a"}}, api.Ver{}, api.Update{}, true},
		{[]api.Update{{Stamp: stamp(-1, 0, 0), Path: "a"}}, api.Ver{}, api.Update{Stamp: stamp(-1, 0, 0), Path: "a"}, true},
		{[]api.Update{{Path: "a"}, {}}, api.Ver{}, api.Update{Path: "a"}, true},
		{[]api.Update{{}, {Path: "a"}}, api.Ver{}, api.Update{}, true},
	}
	for _, c := range cases {
		if u, is := update.Best(c.l, c.item); u != c.want || is != c.is {
			t.Errorf("Best(%v, %v) = %v, %t, want %v, %t", c.l, c.item, u, is, c.want, c.is)
		}
		listIs(t, c.l, c.item, every())
	}
}
