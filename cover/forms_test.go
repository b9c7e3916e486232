package cover_test

import (
	"slices"
	"testing"

	"lighterage/api"
	"lighterage/cover"
	"lighterage/filter"
)

// P10.2: what both filters have.
func TestMeet(t *testing.T) {
	cases := []struct{ f, g, want []api.Clause }{
		{nil, nil, nil},
		{nil, filter.All(), nil},
		{filter.All(), filter.All(), filter.All()},
		{cs("a:0-9"), cs("a/b:3-4"), cs("a/b:3-4")},
		{cs("a:0-9"), cs("b:0-9"), nil},
		{cs("a:0-9"), cs("ab:0-9"), nil},
		{cs("a/b:0-9"), cs("a/c:0-9"), nil},
		{cs("a:0-9"), cs("a:10-20"), nil},
		{cs("a:0-9"), cs("a:9-20"), cs("a:9-9")},
		{cs("a:0-9"), cs("a:0-9"), cs("a:0-9")},
		{cs("a:0-9"), cs(":5-20"), cs("a:5-9")},
		{cs("a:0-9", "a:5-7"), filter.All(), cs("a:0-9")},
		{cs("b:5-7", "a:6-9", "a:0-5"), filter.All(), cs("a:0-9", "b:5-7")},
		{cs("a:0-3", "a:6-9"), cs("a:2-7"), cs("a:2-3", "a:6-7")},
		{cs("a:0-3", "a:4-9"), cs("a:2-7"), cs("a:2-7")},
		{cs(":0-5", "a:4-10"), cs("a/x:8-20", "b:3-3"), cs("a/x:8-10", "b:3-3")},
		// A size that the one has from above, and the other one from below.
		{cs(":0-5", "a:6-9"), cs("a:3-7"), cs("a:3-7")},
		{cs(":0-5", "a:6-9"), cs(":3-7"), cs(":3-5", "a:6-7")},
		{cs(":0-5", "a/b:6-9"), cs("a:4-7"), cs("a:4-5", "a/b:6-7")},
		{cs(":0-3", "a:4-6"), cs("a:0-2", "a/b:3-9"), cs("a:0-2", "a/b:3-6")},
		{cs(":0-9"), cs(":0-3", "a:4-6", "a/b:7-12"), cs(":0-3", "a:4-6", "a/b:7-9")},
		// What is there already above is not told below.
		{cs(":0-5", "a:3-9"), cs(":0-9"), cs(":0-5", "a:6-9")},
		{cs(":0-5", "a:3-9"), cs("a:0-5", ":3-4"), cs(":3-4", "a:0-2", "a:5-5")},
		{cs("a:0-9"), cs("a:0-9", "a/b:3-4"), cs("a:0-9")},
	}
	for _, c := range cases {
		for _, l := range [][]api.Clause{cover.Meet(c.f, c.g), cover.Meet(c.g, c.f)} {
			if !slices.Equal(l, c.want) {
				t.Errorf("Meet of %v and %v = %v, want %v", c.f, c.g, l, c.want)
			}
		}
		holds(t, c.f, c.g)
		holds(t, c.g, c.f)
	}
}

// P10.2: what one of two filters has.
func TestJoin(t *testing.T) {
	cases := []struct{ f, g, want []api.Clause }{
		{nil, nil, nil},
		{nil, cs("a:5-9", "a:0-4"), cs("a:0-9")},
		{nil, filter.All(), filter.All()},
		{filter.All(), cs("a:5-9"), filter.All()},
		{cs("a:0-9"), cs("a/b:3-4"), cs("a:0-9")},
		{cs("a:0-9"), cs("a/b:3-14"), cs("a:0-9", "a/b:10-14")},
		{cs("b:0-9"), cs("a:0-9"), cs("a:0-9", "b:0-9")},
		{cs("a:0-9"), cs("a:10-20"), cs("a:0-20")},
		{cs("a:0-9"), cs("a:11-20"), cs("a:0-9", "a:11-20")},
		{cs("a:0-9"), cs("a:5-20"), cs("a:0-20")},
		{cs("a:0-9"), cs(":5-20"), cs(":5-20", "a:0-4")},
		{cs("a:0-9"), cs(":3-5"), cs(":3-5", "a:0-2", "a:6-9")},
		{cs(":0-2", "a/b:0-9"), cs("a:3-5"), cs(":0-2", "a:3-5", "a/b:6-9")},
		{cs("a/b:0-9"), cs("a-b:0-9", "a:0-5"), cs("a:0-5", "a-b:0-9", "a/b:6-9")},
		{cs("a:0-9", "a:5-7"), nil, cs("a:0-9")},
	}
	for _, c := range cases {
		for _, l := range [][]api.Clause{cover.Join(c.f, c.g), cover.Join(c.g, c.f)} {
			if !slices.Equal(l, c.want) {
				t.Errorf("Join of %v and %v = %v, want %v", c.f, c.g, l, c.want)
			}
		}
		holds(t, c.f, c.g)
		holds(t, c.g, c.f)
	}
}

// P10.2: which clauses of a filter another one has not all of.
func TestMinus(t *testing.T) {
	cases := []struct{ f, g, want []api.Clause }{
		{nil, nil, nil},
		{nil, filter.All(), nil},
		{filter.All(), nil, filter.All()},
		{filter.All(), filter.All(), nil},
		{cs("a:0-9"), cs("a:0-9"), nil},
		{cs("a:0-9"), cs(":0-9"), nil},
		{cs("a:0-9"), cs("b:0-9"), cs("a:0-9")},
		{cs("a:0-9"), cs("ab:0-9"), cs("a:0-9")},
		{cs("a:0-9"), cs("a:0-3"), cs("a:4-9")},
		{cs("a:0-9"), cs("a:3-5"), cs("a:0-2", "a:6-9")},
		{cs("a:0-9"), cs(":3-5"), cs("a:0-2", "a:6-9")},
		{cs("a:0-9"), cs(":3-5", "a:0-1"), cs("a:2-2", "a:6-9")},
		{cs("a:0-9"), cs("a:10-20"), cs("a:0-9")},
		// What the other one has below a clause stays in it.
		{cs("a:0-9"), cs("a/b:3-4"), cs("a:0-9")},
		{cs(":0-5", "a:4-10"), cs("a:0-8"), cs(":0-5", "a:9-10")},
		{cs(":0-5", "a:4-10"), cs(":0-3"), cs(":4-5", "a:6-10")},
		{cs(":0-5", "a:4-10"), cs(":0-5"), cs("a:6-10")},
		{cs(":0-5", "a:4-10"), cs(":2-7"), cs(":0-1", "a:8-10")},
		{cs(":0-5", "a:4-10"), cs(":4-4", "a:7-8"), cs(":0-3", ":5-5", "a:6-6", "a:9-10")},
		{cs(":0-5", "a:0-5"), cs(":0-5"), nil},
		{cs(":0-5", "a:0-5"), cs("a:0-5"), cs(":0-5")},
		// In the normal form, however the clauses are told.
		{cs("b:0-9", "a:5-9", "a:0-4"), nil, cs("a:0-9", "b:0-9")},
		{cs("a:0-4", "a:5-9", "a:3-7"), cs("a:2-2"), cs("a:0-1", "a:3-9")},
		{cs("a/b:0-9", "a:0-3", ":2-2"), cs("a:0-1"), cs(":2-2", "a:3-3", "a/b:4-9")},
	}
	for _, c := range cases {
		if l := cover.Minus(c.f, c.g); !slices.Equal(l, c.want) {
			t.Errorf("Minus of %v and %v = %v, want %v", c.f, c.g, l, c.want)
		}
		holds(t, c.f, c.g)
		holds(t, c.g, c.f)
	}
}

// P10.2: all pairs of filters of up to two clauses of a few.
func TestFormsOfPairs(t *testing.T) {
	filters := upToTwo(few())
	for _, f := range filters {
		for _, g := range filters {
			formsAre(t, f, g)
		}
	}
}

// P10.2: what is answered is its own normal form, and has at each path what it has to have.
func TestFormsAreNormal(t *testing.T) {
	filters := upToTwo(few())
	for i, f := range filters {
		g := filters[(31*i+17)%len(filters)]
		atPathsAre(t, f, g)
		for _, l := range [][]api.Clause{cover.Meet(f, g), cover.Join(f, g), cover.Minus(f, g)} {
			if n := filter.Norm(l); !slices.Equal(n, l) {
				t.Errorf("of %v and %v came %v, whose normal form is %v", f, g, l, n)
			}
		}
	}
}
