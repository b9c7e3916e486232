package sizes_test

import (
	"math"
	"slices"
	"testing"

	"lighterage/api"
	"lighterage/sizes"
)

const (
	least = math.MinInt
	most  = math.MaxInt
)

// P8.1: the normal form of lists, and how many sizes they have.
func TestNorm(t *testing.T) {
	cases := []struct {
		l, want []api.Range
		many    int
	}{
		{nil, nil, 0},
		{rs(5, 9, 0, 3, 4, 4), rs(0, 9), 10},
		{rs(0, 0), rs(0, 0), 1},
		{rs(200, 200), rs(200, 200), 1},
		{rs(0, 200), rs(0, 200), 201},
		{rs(3, 7), rs(3, 7), 5},
		// Neighbours: with a size between them, with none, and with one that both have.
		{rs(0, 3, 5, 9), rs(0, 3, 5, 9), 9},
		{rs(0, 3, 4, 9), rs(0, 9), 10},
		{rs(0, 3, 3, 9), rs(0, 9), 10},
		{rs(5, 9, 0, 3), rs(0, 3, 5, 9), 9},
		{rs(4, 9, 0, 3), rs(0, 9), 10},
		{rs(0, 198, 200, 200), rs(0, 198, 200, 200), 200},
		{rs(0, 199, 200, 200), rs(0, 200), 201},
		{rs(0, 0, 2, 2, 1, 1), rs(0, 2), 3},
		// One within another one, and the same one again.
		{rs(0, 9, 3, 4), rs(0, 9), 10},
		{rs(3, 4, 0, 9), rs(0, 9), 10},
		{rs(0, 9, 0, 4), rs(0, 9), 10},
		{rs(0, 4, 0, 9), rs(0, 9), 10},
		{rs(0, 9, 5, 9), rs(0, 9), 10},
		{rs(0, 9, 1, 1, 8, 12), rs(0, 12), 13},
		{rs(0, 9, 1, 1, 11, 12), rs(0, 9, 11, 12), 12},
		{rs(6, 6, 6, 6, 6, 6), rs(6, 6), 1},
		{rs(8, 8, 2, 2, 6, 6, 0, 0, 4, 4), rs(0, 0, 2, 2, 4, 4, 6, 6, 8, 8), 5},
		// Ranges of nothing, also between two that they would bring together.
		{rs(9, 3), nil, 0},
		{rs(1, 0), nil, 0},
		{rs(200, 0), nil, 0},
		{rs(most, least), nil, 0},
		{rs(0, 3, 8, 1, 5, 9), rs(0, 3, 5, 9), 9},
		{rs(0, 3, 4, 3, 5, 9), rs(0, 3, 5, 9), 9},
		// What leaves the sizes, at either end.
		{rs(-1, -1), nil, 0},
		{rs(-1, 0), rs(0, 0), 1},
		{rs(-5, 4), rs(0, 4), 5},
		{rs(201, 201), nil, 0},
		{rs(200, 201), rs(200, 200), 1},
		{rs(190, 300), rs(190, 200), 11},
		{rs(-1, 201), rs(0, 200), 201},
		{rs(9, 3, 201, 300, -5, -1), nil, 0},
		{rs(least, most), rs(0, 200), 201},
		{rs(least, least, most, most), nil, 0},
		{rs(least, -1, 201, most), nil, 0},
		{rs(least, 0, 200, most), rs(0, 0, 200, 200), 2},
		{rs(most, most, least, 3, 5, most), rs(0, 3, 5, 200), 200},
		{rs(-9, -2, 1, 1), rs(1, 1), 1},
		{rs(199, 199, 201, 201), rs(199, 199), 1},
		{rs(-10, -20, 300, 250, 150, 100), nil, 0},
	}
	for _, c := range cases {
		if l := sizes.Norm(c.l...); !slices.Equal(l, c.want) {
			t.Errorf("Norm(%v) = %v, want %v", c.l, l, c.want)
		}
		if n := sizes.Many(c.l); n != c.many {
			t.Errorf("Many(%v) = %d, want %d", c.l, n, c.many)
		}
		listIs(t, c.l)
		holdsIs(t, c.l)
	}
	if l := sizes.Norm(); len(l) != 0 {
		t.Errorf("Norm() = %v", l)
	}
}

// P8.1: which sizes are in a list, and that no other number is.
func TestHolds(t *testing.T) {
	cases := []struct {
		l    []api.Range
		n    int
		want bool
	}{
		{nil, 0, false},
		{rs(3, 5), 2, false},
		{rs(3, 5), 3, true},
		{rs(3, 5), 4, true},
		{rs(3, 5), 5, true},
		{rs(3, 5), 6, false},
		{rs(7, 9, 3, 5), 4, true},
		{rs(7, 9, 3, 5), 6, false},
		{rs(7, 9, 3, 5), 9, true},
		{rs(5, 3), 4, false},
		{rs(0, 200), 0, true},
		{rs(0, 200), 200, true},
		{rs(0, 200), -1, false},
		{rs(0, 200), 201, false},
		{rs(least, most), 0, true},
		{rs(least, most), 200, true},
		{rs(least, most), -1, false},
		{rs(least, most), 201, false},
		{rs(least, most), least, false},
		{rs(least, most), most, false},
		{rs(-5, -1), -3, false},
		{rs(201, 300), 250, false},
		{rs(-5, 3), 3, true},
		{rs(198, 300), 200, true},
	}
	for _, c := range cases {
		if is := sizes.Holds(c.l, c.n); is != c.want {
			t.Errorf("Holds(%v, %d) = %v", c.l, c.n, is)
		}
	}
}

// P8.1, R5: all lists of up to two ranges whose ends are numbers about the edges, and of three about fewer.
func TestEdges(t *testing.T) {
	var l []api.Range
	for _, lo := range edges() {
		for _, hi := range edges() {
			l = append(l, api.Range{Lo: lo, Hi: hi})
		}
	}
	for i, r := range l {
		listIs(t, []api.Range{r})
		holdsIs(t, []api.Range{r})
		for j, s := range l {
			listIs(t, []api.Range{r, s})
			if i%7 == 0 && j%5 == 0 {
				listIs(t, []api.Range{r, l[(i+3*j)%len(l)], s})
			}
		}
	}
}

// P8.1: all lists of three ranges of a few sizes, at either end of the sizes.
func TestThree(t *testing.T) {
	for _, from := range []int{-1, 197} {
		var l []api.Range
		for lo := from; lo < from+6; lo++ {
			for hi := from; hi < from+6; hi++ {
				l = append(l, api.Range{Lo: lo, Hi: hi})
			}
		}
		for _, r := range l {
			for _, s := range l {
				for _, u := range l {
					list := [3]api.Range{r, s, u}
					if got, want := sizes.Norm(list[:]...), modelOf(list[:]).ranges(); !slices.Equal(got, want) {
						t.Errorf("Norm(%v) = %v, want %v", list, got, want)
					}
				}
			}
		}
	}
}

// P8.4: all sets of a few sizes have one normal form each, in whichever way they are spelt.
func TestOne(t *testing.T) {
	const bits = 10
	for _, from := range []int{0, 95, 201 - bits} {
		for b := range 1 << bits {
			m := window(from, b)
			want := m.ranges()
			for _, l := range spelt(m) {
				got := sizes.Norm(l...)
				if !isNormal(got) || modelOf(got) != m {
					t.Fatalf("Norm(%v) = %v, which is no normal form of it", l, got)
				}
				if !slices.Equal(got, want) || sizes.Many(l) != m.many() {
					t.Fatalf("Norm(%v) = %v, want %v; Many is %d", l, got, want, sizes.Many(l))
				}
			}
		}
	}
}

// P8.4: what is a normal form already is its own one, and no other list that is one has the same sizes.
func TestNormalForms(t *testing.T) {
	var forms [][]api.Range
	var grow func(l []api.Range, from int)
	grow = func(l []api.Range, from int) {
		forms = append(forms, slices.Clone(l))
		for lo := from; lo <= 200; lo++ {
			for hi := lo; hi <= 200; hi++ {
				grow(append(l, api.Range{Lo: lo, Hi: hi}), hi+2)
			}
		}
	}
	grow(nil, 191)
	sets := map[model]bool{}
	for _, l := range forms {
		if !isNormal(l) || !slices.Equal(sizes.Norm(l...), l) {
			t.Errorf("Norm(%v) = %v", l, sizes.Norm(l...))
		}
		sets[modelOf(l)] = true
	}
	if len(forms) != 1<<10 || len(sets) != len(forms) {
		t.Errorf("%d normal forms of %d sets", len(forms), len(sets))
	}
}

// P8.1, R1: lists of many ranges, of all sizes, of every other one, and of one again and again.
func TestMany(t *testing.T) {
	var other, all []api.Range
	for n := 200; n >= 0; n-- {
		all = append(all, api.Range{Lo: n, Hi: n})
		if n%2 == 0 {
			other = append(other, api.Range{Lo: n, Hi: n})
		}
	}
	for _, l := range [][]api.Range{all, other, slices.Repeat(other, 1000), slices.Repeat(rs(7, 9, 9, 7, -1, 300), 1<<16), slices.Repeat(rs(9, 7), 1<<18)} {
		m := modelOf(l)
		if s := sizes.Norm(l...); !slices.Equal(s, m.ranges()) {
			t.Errorf("Norm of %d ranges = %v, want %v", len(l), s, m.ranges())
		}
		if n := sizes.Many(l); n != m.many() {
			t.Errorf("Many of %d ranges = %d, want %d", len(l), n, m.many())
		}
	}
	if n := len(sizes.Norm(other...)); n != 101 {
		t.Errorf("every other size stands in %d ranges", n)
	}
}
