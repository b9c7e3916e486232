package vec_test

import (
	"testing"

	"lighterage/api"
	"lighterage/vec"
)

// P13.2: the greater number for each replica, and the smaller one.
func TestJoinAndMeet(t *testing.T) {
	cases := []struct{ a, b, join, meet api.Vec }{
		{api.Vec{}, api.Vec{}, api.Vec{}, api.Vec{}},
		{at(1, 5), api.Vec{}, at(1, 5), api.Vec{}},
		{at(1, 5), at(1, 5), at(1, 5), at(1, 5)},
		{at(1, 5), at(1, 3), at(1, 5), at(1, 3)},
		{at(1, 5), at(2, 3), at(1, 5, 2, 3), api.Vec{}},
		{at(1, 5, 64, 2), at(1, 3, 7, 1), at(1, 5, 7, 1, 64, 2), at(1, 3)},
		{at(1, 5, 2, 1), at(1, 3, 2, 4), at(1, 5, 2, 4), at(1, 3, 2, 1)},
		{at(64, most), at(64, 1, 1, most), at(1, most, 64, most), at(64, 1)},
		// Numbers as they count.
		{at(1, -1), at(1, -2), api.Vec{}, api.Vec{}},
		{at(1, -1), at(1, 2), at(1, 2), api.Vec{}},
		{at(1, least, 2, 3), at(2, -3), at(2, 3), api.Vec{}},
		{at(0, 5), at(0, 5), api.Vec{}, api.Vec{}},
		{at(0, 5), at(0, -5), api.Vec{}, api.Vec{}},
		{at(0, most, 1, 1), at(0, 1, 1, 2), at(1, 2), at(1, 1)},
		{fullOf(least), fullOf(-1), api.Vec{}, api.Vec{}},
	}
	for _, c := range cases {
		same(t, "Join", vec.Join(c.a, c.b), c.join)
		same(t, "Join", vec.Join(c.b, c.a), c.join)
		same(t, "Meet", vec.Meet(c.a, c.b), c.meet)
		same(t, "Meet", vec.Meet(c.b, c.a), c.meet)
	}
}

// P13.2: whether one contains every version that another one contains.
func TestCovers(t *testing.T) {
	cases := []struct {
		a, b    api.Vec
		is, not bool
	}{
		{api.Vec{}, api.Vec{}, true, true},
		{at(1, 5), api.Vec{}, true, false},
		{at(1, 5), at(1, 5), true, true},
		{at(1, 5), at(1, 4), true, false},
		{at(1, 5), at(2, 1), false, false},
		{at(1, 5, 2, 1), at(2, 1), true, false},
		{at(1, 5, 2, 1), at(1, 4, 2, 2), false, false},
		{at(1, 5, 64, 2), at(64, 2), true, false},
		{at(1, 5, 64, 2), at(64, 3), false, false},
		{at(64, most), at(64, most-1), true, false},
		{fullOf(2), fullOf(1), true, false},
		// Numbers as they count: such as have no version are alike.
		{api.Vec{}, at(1, -1), true, true},
		{at(1, -5), at(1, -1), true, true},
		{at(1, least), fullOf(-1), true, true},
		{api.Vec{}, at(0, 5), true, true},
		{at(0, 1), at(0, 5), true, true},
		{at(0, -1), at(0, most), true, true},
		{at(0, 1, 1, 2), at(0, 5, 1, 1), true, false},
		{at(1, 2, 2, -2), at(1, 2, 2, -1), true, true},
		{at(1, 1), at(1, -1), true, false},
	}
	for _, c := range cases {
		if is := vec.Covers(c.a, c.b); is != c.is {
			t.Errorf("Covers(%v, %v) = %t", showing(c.a), showing(c.b), is)
		}
		if is := vec.Covers(c.b, c.a); is != c.not {
			t.Errorf("Covers(%v, %v) = %t", showing(c.b), showing(c.a), is)
		}
	}
}

// P13.2: of each replica alone, whatever stands at the others' places.
func TestEachPlace(t *testing.T) {
	for by := 1; by <= 64; by++ {
		for _, under := range []api.Vec{{}, fullOf(4)} {
			more, less := under, under
			more[by], less[by] = 9, 2
			same(t, "Join", vec.Join(more, less), modelJoin(more, less))
			same(t, "Meet", vec.Meet(more, less), modelMeet(more, less))
			if !vec.Covers(more, less) || vec.Covers(less, more) {
				t.Errorf("Covers at %d", by)
			}
		}
	}
}

// P13.2, P13.4, R5: all pairs of vectors of many kinds, and of small ones.
func TestOfTwo(t *testing.T) {
	l := somes()
	for i, a := range l {
		for j, b := range l {
			twoIs(t, a, b)
			if (i+j)%5 == 0 {
				setsAre(t, a, b, near(a, b))
			}
		}
	}
	var some []api.Ver
	for by := -1; by <= 65; by++ {
		for n := -1; n <= 3; n++ {
			if by <= 3 || by >= 63 {
				some = append(some, ver(by, n))
			}
		}
	}
	l = vectors([]int{0, 1, 2, 64}, []int{-1, 0, 1, 2})
	for i, a := range l {
		for j, b := range l {
			twoIs(t, a, b)
			if (i+j)%7 == 0 {
				setsAre(t, a, b, some)
			}
		}
	}
}

// P13.4: a partial order: each covers itself, two that cover each other are the same as they count, and what covers one that covers a third one covers that.
func TestCoversIsPartialOrder(t *testing.T) {
	l := append(somes(), vectors([]int{0, 1, 2, 64}, []int{-1, 0, 2})...)
	covers := make([][]bool, len(l))
	for i, a := range l {
		for _, b := range l {
			covers[i] = append(covers[i], vec.Covers(a, b))
		}
	}
	for i, a := range l {
		if !covers[i][i] {
			t.Errorf("%v does not cover itself", showing(a))
		}
		for j, b := range l {
			if both := covers[i][j] && covers[j][i]; both != (vec.Clean(a) == vec.Clean(b)) {
				t.Errorf("%v and %v cover each other: %t", showing(a), showing(b), both)
			}
			if !covers[i][j] {
				continue
			}
			for k, c := range l {
				if covers[j][k] && !covers[i][k] {
					t.Errorf("%v covers %v, which covers %v", showing(a), showing(b), showing(c))
				}
			}
		}
	}
}

// P13.4: both cover Meet, and Join covers both; what both cover Meet covers, and what covers both covers Join.
func TestMeetAndJoinStandBetween(t *testing.T) {
	l := vectors([]int{0, 1, 64}, []int{-1, 0, 1, 2})
	for _, a := range l {
		for _, b := range l {
			join, meet := vec.Join(a, b), vec.Meet(a, b)
			for _, c := range l {
				if vec.Covers(c, join) != (vec.Covers(c, a) && vec.Covers(c, b)) {
					t.Errorf("%v covers %v and %v, or Join alone", showing(c), showing(a), showing(b))
				}
				if vec.Covers(meet, c) != (vec.Covers(a, c) && vec.Covers(b, c)) {
					t.Errorf("%v is covered by %v and %v, or by Meet alone", showing(c), showing(a), showing(b))
				}
			}
		}
	}
}
