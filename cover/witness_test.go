package cover_test

import (
	"slices"
	"strconv"
	"testing"

	"lighterage/api"
	"lighterage/cover"
	"lighterage/filter"
)

// P10.1: which filters have all of which.
func TestSubsumes(t *testing.T) {
	cases := []struct {
		f, g []api.Clause
		want bool
	}{
		{nil, nil, true},
		{nil, []api.Clause{}, true},
		{cs("a:0-9"), nil, true},
		{nil, cs("a:0-0"), false},
		{nil, cs(":200-200"), false},
		{cs("a:0-9"), cs("a/b:3-4"), true},
		{filter.All(), cs("a:0-9", "b/c:200-200"), true},
		{filter.All(), filter.All(), true},
		{cs("a:0-9"), filter.All(), false},
		// The same prefix: the same sizes, fewer at one end, a hole, together as many.
		{cs("a:0-9"), cs("a:0-9"), true},
		{cs("a:0-9"), cs("a:9-9"), true},
		{cs("a:0-9"), cs("a:0-10"), false},
		{cs("a:1-9"), cs("a:0-9"), false},
		{cs("a:0-4", "a:6-9"), cs("a:0-9"), false},
		{cs("a:0-4", "a:5-9"), cs("a:0-9"), true},
		{cs("a:5-9", "a:0-6"), cs("a:0-4", "a:5-9", "a:3-3"), true},
		// Above and below.
		{cs(":0-9"), cs("a/b/c:0-9"), true},
		{cs(":0-9"), cs("a/b/c:0-10"), false},
		{cs("a/b:0-9"), cs("a:0-9"), false},
		{cs("a/b:0-200"), cs("a:3-3"), false},
		{cs(":0-5", "a:4-10"), cs("a/b:0-10"), true},
		{cs(":0-5", "a:4-10"), cs("a/b:0-11"), false},
		{cs(":0-5", "a:4-10"), cs(":0-6"), false},
		{cs(":0-2", "a:3-5", "a/b:6-9"), cs("a/b/c:0-9"), true},
		{cs(":0-2", "a/b:6-9"), cs("a/b/c:0-9"), false},
		{cs(":0-2", "a:3-5", "a/b:6-9"), cs("a/c:0-9"), false},
		{cs(":0-5", "a:6-9"), cs(":0-5", "a:0-9", "a/b:3-7"), true},
		// Beside it: what only begins alike.
		{cs("a:0-9"), cs("ab:0-9"), false},
		{cs("ab:0-9"), cs("a:0-9"), false},
		{cs("a:0-9"), cs("b:0-9"), false},
		{cs("a/b:0-9"), cs("a/bc:0-9"), false},
		// One of several clauses.
		{cs("a:0-9", "c:0-9"), cs("c:0-9", "a:0-9"), true},
		{cs("a:0-9", "c:0-9"), cs("a:0-9", "b:0-9"), false},
		{cs("a:0-9", "c:0-9"), cs("b:0-9", "a:0-9"), false},
		{cs("a:0-9", "c:0-9"), cs("a/b:9-9", "c/d:0-0", "a/b:3-3"), true},
		// At "" too: as many sizes below as there may be are not all that is there.
		{cs("0:0-200", "1:0-200", "a:0-200"), cs(":7-7"), false},
	}
	for _, c := range cases {
		if is := cover.Subsumes(c.f, c.g); is != c.want {
			t.Errorf("Subsumes(%v, %v) = %v", c.f, c.g, is)
		}
		holds(t, c.f, c.g)
		holds(t, c.g, c.f)
	}
}

// P10.1: which file is told of a filter that has not all of another one.
func TestWitness(t *testing.T) {
	cases := []struct {
		f, g []api.Clause
		p    string
		n    int
		is   bool
	}{
		{nil, nil, "", 0, false},
		{cs("a:0-9"), nil, "", 0, false},
		{cs("a:0-9"), cs("a:0-9"), "", 0, false},
		{cs(":0-9"), cs("a/b:3-9"), "", 0, false},
		{nil, cs("a:3-9"), "a", 3, true},
		{nil, cs("a/b/c:0-0"), "a/b/c", 0, true},
		{nil, cs("a:200-200"), "a", 200, true},
		// The smallest size that is missing: below, within, above, in a hole.
		{cs("a:3-9"), cs("a:0-9"), "a", 0, true},
		{cs("a:0-2"), cs("a:0-9"), "a", 3, true},
		{cs("a:0-8"), cs("a:0-9"), "a", 9, true},
		{cs("a:0-2", "a:5-9"), cs("a:0-9"), "a", 3, true},
		{cs("a:0-2", "a:4-4", "a:6-9"), cs("a:0-9"), "a", 3, true},
		{cs(":0-2", "a:3-5"), cs("a/b:1-9"), "a/b", 6, true},
		// The clause that comes first in the normal form, by its prefix and by its range, not by the order of the list.
		{nil, cs("b:0-3", "a:5-9"), "a", 5, true},
		{nil, cs("a:8-9", "a:2-3"), "a", 2, true},
		{nil, cs("ab:1-1", "a/b:2-2", "a-b:3-3"), "a-b", 3, true},
		{cs("a:0-9"), cs("b:3-4", "a:5-9"), "b", 3, true},
		{cs("a:2-3"), cs("a:2-3", "a:8-9"), "a", 8, true},
		{cs("a:2-3"), cs("a:0-0", "a:2-3", "a:8-9"), "a", 0, true},
		{cs("a:0-9"), cs("a:10-10", "b:0-0"), "a", 10, true},
		// What is above in the normal form is not told once more below.
		{cs("a:0-9"), cs("a:0-9", ":0-5"), "0", 0, true},
		{cs(":0-5"), cs("a:0-9", ":0-5"), "a", 6, true},
		{cs("a:0-3"), cs("a/b:0-5", "a:0-4"), "a", 4, true},
		{cs("a:0-4"), cs("a/b:0-5", "a:0-4"), "a/b", 5, true},
		{cs(":0-9"), cs("a/b:0-10", "a:0-8"), "a/b", 10, true},
		// A prefix of the filter below the other one's does not help.
		{cs("a/b:0-200"), cs("a:3-9"), "a", 3, true},
	}
	for _, c := range cases {
		x, is := cover.Witness(c.f, c.g)
		if want := (api.File{Path: c.p, Size: c.n}); x != want || is != c.is {
			t.Errorf("Witness(%v, %v) = %v, %v, want %v, %v", c.f, c.g, x, is, want, c.is)
		}
		holds(t, c.f, c.g)
		holds(t, c.g, c.f)
	}
}

// P10.1: which name stands for a file at "".
func TestWitnessNames(t *testing.T) {
	top := filter.All()
	cases := []struct {
		f, g []api.Clause
		p    string
		n    int
	}{
		{nil, top, "0", 0},
		{cs("a:0-200"), top, "0", 0},
		{cs("0:0-200"), top, "1", 0},
		{cs("0:0-200", "1:0-200"), top, "2", 0},
		{cs("1:0-200", "0:0-200"), top, "2", 0},
		{cs("1:0-200"), top, "0", 0},
		{cs("0:0-0", "2:0-0"), top, "1", 0},
		{cs("0:0-0", "0:3-9", "0:0-0"), top, "1", 0},
		// It is enough that a clause has that prefix, whatever its range.
		{cs("0:9-9"), cs(":0-5"), "1", 0},
		{cs("0:200-200"), cs(":7-7"), "1", 7},
		// Also one that the filter's normal form has not any more.
		{cs(":0-5", "0:2-3"), cs(":0-9"), "1", 6},
		{cs("0:2-3", ":0-5", "1:0-5"), cs(":0-9"), "2", 6},
		// What has a name within its prefix, or begins so, has another prefix.
		{cs("0/1:0-200", "0/a:0-200"), top, "0", 0},
		{cs("00:0-200", "0-1:0-200", "a/0:0-200"), top, "0", 0},
		{cs("0:0-200", "01:0-200", "1/2:0-200", "10:0-200"), top, "1", 0},
		// Names of the other filter's clauses may be told.
		{nil, cs(":0-200", "0:0-200"), "0", 0},
		{cs("0:0-9"), cs(":3-9", "1:0-9"), "1", 3},
		// By numbers, not by bytes.
		{cs("0:1-1", "1:1-1", "10:1-1"), top, "2", 0},
		{cs("9:1-1", "8:1-1", "7:1-1", "6:1-1", "5:1-1", "4:1-1", "3:1-1", "2:1-1", "1:1-1", "0:1-1"), top, "10", 0},
		{cs("9:1-1", "8:1-1", "7:1-1", "6:1-1", "5:1-1", "4:1-1", "3:1-1", "2:1-1", "10:1-1", "0:1-1"), top, "1", 0},
		// "" of the filter itself has some of the sizes.
		{cs(":0-2", ":4-200", "0:0-200"), top, "1", 3},
	}
	for _, c := range cases {
		x, is := cover.Witness(c.f, c.g)
		if want := (api.File{Path: c.p, Size: c.n}); x != want || !is {
			t.Errorf("Witness(%v, %v) = %v, %v, want %v", c.f, c.g, x, is, want)
		}
		holds(t, c.f, c.g)
	}
}

// P10.1: names of which all, or all but one, are those of clauses, in any order.
func TestWitnessManyNames(t *testing.T) {
	for _, n := range []int{1, 2, 9, 10, 11, 99, 100, 101, 1000, 1 << 16} {
		var f []api.Clause
		for i := range n {
			f = append(f, clause(strconv.Itoa(i*7919%n), 0, i%201))
		}
		if n%7919 == 0 {
			t.Fatal("not all names are there")
		}
		want := strconv.Itoa(n)
		for i := -1; i < n; i += max(1, n/7) {
			g := f
			if i >= 0 {
				g = slices.Clone(f)
				want = g[i].Prefix
				g[i].Prefix = "a"
			}
			x, is := cover.Witness(g, filter.All())
			if x != (api.File{Path: want}) || !is {
				t.Errorf("of %d names without %s Witness is %v, %v", n, want, x, is)
			}
		}
	}
}

// P10.1: a witness has a path that is valid, and a valid size, is not Dead, and is matched by the one filter alone.
func witnessIs(t *testing.T, f, g []api.Clause) {
	t.Helper()
	x, is := cover.Witness(f, g)
	if is == cover.Subsumes(f, g) {
		t.Errorf("Witness and Subsumes of %v, %v are both %v", f, g, is)
	}
	if !is {
		if x != (api.File{}) {
			t.Errorf("Witness(%v, %v) = %v, false", f, g, x)
		}
		return
	}
	if x.Dead || x.Size < 0 || x.Size > 200 || filter.Check([]api.Clause{clause(x.Path, 0, 0)}) != api.OK || x.Path == "" {
		t.Errorf("Witness(%v, %v) = %v, which may not be", f, g, x)
	}
	if !filter.Match(g, x) || filter.Match(f, x) || !modelMatch(g, x) || modelMatch(f, x) {
		t.Errorf("Witness(%v, %v) = %v, which is not matched by the second one alone", f, g, x)
	}
}

// P10.1, P10.3: all pairs of filters of up to two clauses of a few.
func TestWitnessOfPairs(t *testing.T) {
	filters := upToTwo(few())
	for _, f := range filters {
		for _, g := range filters {
			subsumesIs(t, f, g)
			witnessIs(t, f, g)
		}
	}
}
