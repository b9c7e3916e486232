package sizes_test

import (
	"slices"
	"testing"

	"lighterage/api"
	"lighterage/sizes"
)

// P8.2: what two sets have together, both, and one alone.
func TestSets(t *testing.T) {
	cases := []struct{ a, b, join, meet, minus []api.Range }{
		{nil, nil, nil, nil, nil},
		{rs(3, 5), nil, rs(3, 5), nil, rs(3, 5)},
		{nil, rs(3, 5), rs(3, 5), nil, nil},
		{rs(0, 10, 20, 30), rs(5, 25), rs(0, 30), rs(5, 10, 20, 25), rs(0, 4, 26, 30)},
		{rs(5, 25), rs(0, 10, 20, 30), rs(0, 30), rs(5, 10, 20, 25), rs(11, 19)},
		{rs(0, 200), rs(50, 60, 100, 100), rs(0, 200), rs(50, 60, 100, 100), rs(0, 49, 61, 99, 101, 200)},
		{rs(50, 60, 100, 100), rs(0, 200), rs(0, 200), rs(50, 60, 100, 100), nil},
		{rs(3, 5), rs(3, 5), rs(3, 5), rs(3, 5), nil},
		// At the ends of a range, of one size, and of all but it.
		{rs(3, 9), rs(3, 3), rs(3, 9), rs(3, 3), rs(4, 9)},
		{rs(3, 9), rs(9, 9), rs(3, 9), rs(9, 9), rs(3, 8)},
		{rs(3, 9), rs(4, 9), rs(3, 9), rs(4, 9), rs(3, 3)},
		{rs(3, 9), rs(3, 8), rs(3, 9), rs(3, 8), rs(9, 9)},
		{rs(3, 9), rs(4, 4, 6, 6), rs(3, 9), rs(4, 4, 6, 6), rs(3, 3, 5, 5, 7, 9)},
		{rs(0, 200), rs(0, 0), rs(0, 200), rs(0, 0), rs(1, 200)},
		{rs(0, 200), rs(200, 200), rs(0, 200), rs(200, 200), rs(0, 199)},
		{rs(0, 200), rs(1, 199), rs(0, 200), rs(1, 199), rs(0, 0, 200, 200)},
		// Beside one another: with no size between them, and with one.
		{rs(3, 5), rs(6, 9), rs(3, 9), nil, rs(3, 5)},
		{rs(6, 9), rs(3, 5), rs(3, 9), nil, rs(6, 9)},
		{rs(3, 5), rs(7, 9), rs(3, 5, 7, 9), nil, rs(3, 5)},
		{rs(7, 9), rs(3, 5), rs(3, 5, 7, 9), nil, rs(7, 9)},
		{rs(3, 5, 9, 12), rs(6, 8), rs(3, 12), nil, rs(3, 5, 9, 12)},
		// Lists that are no normal form: in no order, over one another, of nothing, outside of the sizes.
		{rs(9, 12, 3, 5, 6, 6), rs(12, 14, 5, 9), rs(3, 14), rs(5, 6, 9, 9, 12, 12), rs(3, 4, 10, 11)},
		{rs(0, 9, 0, 9, 2, 3), rs(4, 5, 5, 6), rs(0, 9), rs(4, 6), rs(0, 3, 7, 9)},
		{rs(0, 9), rs(6, 4), rs(0, 9), nil, rs(0, 9)},
		{rs(9, 0), rs(4, 6), rs(4, 6), nil, nil},
		{rs(least, most), rs(3, 5), rs(0, 200), rs(3, 5), rs(0, 2, 6, 200)},
		{rs(3, 5), rs(least, most), rs(0, 200), rs(3, 5), nil},
		{rs(least, 5), rs(5, most), rs(0, 200), rs(5, 5), rs(0, 4)},
		{rs(-9, -1, 201, 300), rs(least, most), rs(0, 200), nil, nil},
		{rs(-9, 300), rs(-9, -1, 201, 300), rs(0, 200), nil, rs(0, 200)},
		{rs(0, 200), rs(most, most, least, least), rs(0, 200), nil, rs(0, 200)},
	}
	for _, c := range cases {
		if l := sizes.Join(c.a, c.b); !slices.Equal(l, c.join) {
			t.Errorf("Join(%v, %v) = %v, want %v", c.a, c.b, l, c.join)
		}
		if l := sizes.Meet(c.a, c.b); !slices.Equal(l, c.meet) {
			t.Errorf("Meet(%v, %v) = %v, want %v", c.a, c.b, l, c.meet)
		}
		if l := sizes.Minus(c.a, c.b); !slices.Equal(l, c.minus) {
			t.Errorf("Minus(%v, %v) = %v, want %v", c.a, c.b, l, c.minus)
		}
		pairIs(t, c.a, c.b)
		pairIs(t, c.b, c.a)
	}
}

// P8.3: whether a set has all sizes of another one, and whether both have the same.
func TestCovers(t *testing.T) {
	cases := []struct {
		a, b         []api.Range
		covers, same bool
	}{
		{nil, nil, true, true},
		{nil, rs(9, 3, -5, -1, 201, 300), true, true},
		{rs(9, 3), nil, true, true},
		{rs(0, 0), nil, true, false},
		{nil, rs(0, 0), false, false},
		{nil, rs(200, 200), false, false},
		{rs(3, 9), rs(3, 9), true, true},
		{rs(3, 9), rs(4, 8), true, false},
		{rs(3, 9), rs(3, 8), true, false},
		{rs(3, 9), rs(4, 9), true, false},
		{rs(3, 9), rs(2, 9), false, false},
		{rs(3, 9), rs(3, 10), false, false},
		{rs(3, 9), rs(10, 12), false, false},
		{rs(3, 9), rs(4, 5, 20, 20), false, false},
		{rs(3, 5, 7, 9), rs(3, 9), false, false},
		{rs(3, 5, 7, 9), rs(6, 6), false, false},
		// Together they have what neither has.
		{rs(3, 5, 6, 9), rs(3, 9), true, true},
		{rs(6, 9, 3, 6), rs(3, 9), true, true},
		{rs(3, 5, 6, 9), rs(5, 6), true, false},
		{rs(3, 9), rs(5, 6, 3, 4, 7, 9), true, true},
		{rs(3, 9, 3, 9), rs(3, 9), true, true},
		{rs(0, 200), rs(least, most), true, true},
		{rs(least, most), rs(0, 200), true, true},
		{rs(-5, 3), rs(0, 3), true, true},
		{rs(198, 200), rs(198, 300), true, true},
		{rs(0, 199), rs(least, most), false, false},
		{rs(1, 200), rs(least, most), false, false},
		{rs(0, 3), rs(5, 9), false, false},
		{rs(0, 3), rs(10, 13), false, false},
	}
	for _, c := range cases {
		if is := sizes.Covers(c.a, c.b); is != c.covers {
			t.Errorf("Covers(%v, %v) = %v", c.a, c.b, is)
		}
		if is := sizes.Same(c.a, c.b); is != c.same {
			t.Errorf("Same(%v, %v) = %v", c.a, c.b, is)
		}
		if is := sizes.Same(c.b, c.a); is != c.same {
			t.Errorf("Same(%v, %v) = %v", c.b, c.a, is)
		}
		pairIs(t, c.a, c.b)
		pairIs(t, c.b, c.a)
	}
}

// P8.2, P8.3: all pairs of sets of a few sizes, at either end of the sizes, in whichever way they are spelt.
func TestWindows(t *testing.T) {
	const bits = 6
	for _, from := range []int{0, 201 - bits} {
		for i := range 1 << bits {
			for j := range 1 << bits {
				as, bs := spelt(window(from, i)), spelt(window(from, j))
				pairIs(t, as[(i+j)%len(as)], bs[(i+2*j+1)%len(bs)])
				pairIs(t, as[0], bs[0])
			}
		}
	}
}

// P8.2, P8.3, R5: all pairs of lists of one range whose ends are numbers about the edges.
func TestPairsOfEdges(t *testing.T) {
	var l []api.Range
	for _, lo := range edges() {
		for _, hi := range edges() {
			// Of those that are of nothing a few will do.
			if lo <= hi || (lo+hi)%3 == 0 {
				l = append(l, api.Range{Lo: lo, Hi: hi})
			}
		}
	}
	for _, r := range l {
		for _, s := range l {
			pairIs(t, []api.Range{r}, []api.Range{s})
		}
	}
}

// P8.2, P8.3, R1: sets of as many ranges as can be, and lists of many more.
func TestMostRanges(t *testing.T) {
	var even, odd []api.Range
	for n := range 201 {
		if n%2 == 0 {
			even = append(even, api.Range{Lo: n, Hi: n})
		} else {
			odd = append(odd, api.Range{Lo: n, Hi: n})
		}
	}
	lists := [][]api.Range{even, odd, rs(0, 200), rs(1, 199), rs(10, 20, 30, 40), slices.Concat(odd, even)}
	for _, a := range lists {
		for _, b := range lists {
			pairIs(t, a, b)
			pairIs(t, slices.Repeat(a, 9), slices.Repeat(b, 7))
		}
	}
	long := slices.Repeat(rs(7, 9, 9, 7, 100, 99), 1<<14)
	pairIs(t, long, even)
	pairIs(t, odd, long)
}

// calls are all that answers ranges, of two lists.
func calls() []func(a, b []api.Range) []api.Range {
	return []func(a, b []api.Range) []api.Range{
		sizes.Join, sizes.Meet, sizes.Minus,
		func(a, b []api.Range) []api.Range { return sizes.Norm(a...) },
	}
}

// R3: what is handed in stays as it is, its spare room too.
func TestNothingChanged(t *testing.T) {
	const room = 20
	first := slices.Concat(rs(9, 300, -5, 3, 4, 4, 1, 0), slices.Repeat(rs(77, 77), room))
	second := slices.Concat(rs(6, 7, 2, 12, 9, 3), slices.Repeat(rs(88, 88), room))
	a, b := slices.Clone(first), slices.Clone(second)
	x, y := a[:len(a)-room], b[:len(b)-room]
	for _, call := range calls() {
		call(x, y)
		call(y, x)
		call(x, x)
	}
	sizes.Holds(x, 5)
	sizes.Covers(x, y)
	sizes.Same(x, y)
	sizes.Many(x)
	if !slices.Equal(a, first) || !slices.Equal(b, second) {
		t.Errorf("what was handed in became %v and %v", a, b)
	}
}

// R3: what is answered is new memory, also where it is what was handed in.
func TestNothingShared(t *testing.T) {
	lists := [][2][]api.Range{
		{rs(0, 3, 5, 9), nil},
		{rs(0, 3, 5, 9), rs(0, 200)},
		{rs(0, 3, 5, 9), rs(0, 3, 5, 9)},
		{rs(0, 3, 5, 9), rs(20, 30)},
	}
	for _, l := range lists {
		a, b := slices.Clone(l[0]), slices.Clone(l[1])
		for i, call := range calls() {
			got := call(a, b)
			want := slices.Clone(got)
			// Its spare room is no one else's, either.
			for j := range got[:cap(got)] {
				got[:cap(got)][j] = api.Range{Lo: 100 + j, Hi: 300}
			}
			if !slices.Equal(a, l[0]) || !slices.Equal(b, l[1]) {
				t.Fatalf("call %d answers what was handed in, %v and %v", i, l[0], l[1])
			}
			again := call(a, b)
			if !slices.Equal(again, want) {
				t.Errorf("call %d of %v and %v = %v, want %v", i, a, b, again, want)
			}
			for j := range a {
				a[j] = api.Range{Lo: 50, Hi: 60}
			}
			for j := range b {
				b[j] = api.Range{Lo: 70, Hi: 80}
			}
			if !slices.Equal(again, want) {
				t.Errorf("call %d keeps what was handed in", i)
			}
			copy(a, l[0])
			copy(b, l[1])
		}
	}
}

// listOf reads ranges out of bytes: numbers about the sizes, and now and then one far outside of them.
func listOf(s []byte) []api.Range {
	var l []api.Range
	number := func(b byte) int {
		switch {
		case b < 230:
			return int(b) - 12
		case b < 240:
			return least + int(b-230)
		case b < 250:
			return most - int(b-240)
		}
		return int(b) * 40
	}
	for ; len(s) >= 2; s = s[2:] {
		l = append(l, api.Range{Lo: number(s[0]), Hi: number(s[1])})
	}
	return l
}

// P8.1 to P8.4, R1: whatever the ranges are.
func FuzzSets(f *testing.F) {
	f.Add([]byte{}, []byte{12, 12}, 0)
	f.Add([]byte{17, 21, 12, 15, 16, 16}, []byte{0, 255, 230, 249}, 5)
	f.Add([]byte{212, 213, 12, 211, 20, 14}, []byte{11, 12, 14, 16, 18, 20}, 200)
	f.Fuzz(func(t *testing.T, x, y []byte, n int) {
		a, b := listOf(x), listOf(y)
		listIs(t, a)
		listIs(t, b)
		pairIs(t, a, b)
		pairIs(t, b, a)
		m := modelOf(a)
		if is := sizes.Holds(a, n); is != (n >= 0 && n <= 200 && m[n]) {
			t.Errorf("Holds(%v, %d) = %v", a, n, is)
		}
		for _, l := range spelt(m) {
			if !slices.Equal(sizes.Norm(l...), sizes.Norm(a...)) || !sizes.Same(l, a) {
				t.Errorf("%v and %v have the same sizes, and other normal forms", l, a)
			}
		}
	})
}
