package know_test

import (
	"testing"

	"lighterage/api"
	"lighterage/filter"
	"lighterage/know"
)

// P15.1: which versions of which items knowledge contains, for which filters.
func TestContains(t *testing.T) {
	x := ver(9, 9)
	cases := []struct {
		k    api.Know
		item api.Ver
		v    api.Ver
		f    string
		want bool
	}{
		{kn(), x, ver(1, 1), "a:0-9", false},
		{kn(), x, ver(1, 1), "-", false},
		// One whole claim: its versions, and no others.
		{kn(":0-200 1.5"), x, ver(1, 1), ":0-200", true},
		{kn(":0-200 1.5"), x, ver(1, 3), ":0-200", true},
		{kn(":0-200 1.5"), x, ver(1, 5), ":0-200", true},
		{kn(":0-200 1.5"), x, ver(1, 6), ":0-200", false},
		{kn(":0-200 1.5"), x, ver(2, 1), ":0-200", false},
		{kn(":0-200 1.5"), ver(0, 0), ver(1, 3), ":0-200", true},
		// As far as its filter goes.
		{kn("a:0-9 1.5"), x, ver(1, 5), "a:0-9", true},
		{kn("a:0-9 1.5"), x, ver(1, 5), "a/b:3-4", true},
		{kn("a:0-9 1.5"), x, ver(1, 5), "a:0-10", false},
		{kn("a:0-9 1.5"), x, ver(1, 5), "b:0-9", false},
		{kn("a:0-9 1.5"), x, ver(1, 5), "a:0-9,b:0-9", false},
		{kn("a:0-9 1.5"), x, ver(1, 5), ":0-200", false},
		// A filter of no clause goes nowhere, so each claim does, but not one that has none itself.
		{kn("a:0-9 1.5"), x, ver(1, 5), "-", true},
		{kn("a:0-9 1.5"), x, ver(1, 6), "-", false},
		{kn("a:0-9 1.5 9.9"), x, ver(1, 5), "-", false},
		{kn("- 1.5"), x, ver(1, 5), "-", false},
		{kn("- 1.5", "a:0-9 1.5"), x, ver(1, 5), "-", true},
		{kn("- 1.5"), x, ver(1, 5), "a:0-9", false},
		// Of all items except those of Not, in whatever order they stand there.
		{kn("a:0-9 1.5 9.9"), x, ver(1, 5), "a:0-9", false},
		{kn("a:0-9 1.5 9.9"), ver(9, 8), ver(1, 5), "a:0-9", true},
		{kn("a:0-9 1.5 9.9"), ver(8, 9), ver(1, 5), "a:0-9", true},
		{kn("a:0-9 1.5 9.9,3.1,9.9,1.7"), ver(3, 1), ver(1, 5), "a:0-9", false},
		{kn("a:0-9 1.5 9.9,3.1,9.9,1.7"), ver(1, 7), ver(1, 5), "a:0-9", false},
		{kn("a:0-9 1.5 9.9,3.1,9.9,1.7"), ver(1, 8), ver(1, 5), "a:0-9", true},
		{kn("a:0-9 1.5 0.0"), ver(0, 0), ver(1, 5), "a:0-9", false},
		// Several whole claims, each of a part.
		{kn("a:0-9 1.5", "a:10-200 1.5"), x, ver(1, 5), "a:0-200", true},
		{kn("a:0-9 1.5", "a:11-200 1.5"), x, ver(1, 5), "a:0-200", false},
		{kn("a:0-9 1.5", "b:0-9 1.5"), x, ver(1, 5), "b:0-9,a:0-9", true},
		{kn("a:0-9 1.5", "b:0-9 1.5"), x, ver(1, 5), "b:0-9,c:0-9", false},
		{kn("a:0-9 1.5", "a:10-200 1.3"), x, ver(1, 3), "a:0-200", true},
		{kn("a:0-9 1.5", "a:10-200 1.3"), x, ver(1, 4), "a:0-200", false},
		{kn("a:0-9 1.5", "a:10-200 1.3"), x, ver(1, 4), "a:0-9", true},
		{kn("a:0-9 1.5", "a:10-200 1.5 9.9"), x, ver(1, 4), "a:0-200", false},
		{kn("a:0-9 1.5", "a:10-200 1.5 9.9"), x, ver(1, 4), "a:0-9", true},
		{kn("a:0-9 1.5", "a:10-200 1.5 9.9"), ver(9, 8), ver(1, 4), "a:0-200", true},
		{kn("a:0-9 1.5 9.9", ":0-200 2.5", "a:0-200 1.4"), x, ver(1, 4), "a:0-200", true},
		{kn("a:0-9 1.5 9.9", ":0-200 2.5", "a:0-200 1.4"), x, ver(1, 5), "a:0-9", false},
		// All sizes of all files that a clause has, below it too.
		{kn("a:0-9 1.5", "a/b:10-200 1.5"), x, ver(1, 5), "a/b:0-200", true},
		{kn("a:0-9 1.5", "a/b:10-200 1.5"), x, ver(1, 5), "a:0-200", false},
		// An item's claim: of that item alone, whatever the filter.
		{kn("=9.9 1.5"), x, ver(1, 5), ":0-200", true},
		{kn("=9.9 1.5"), x, ver(1, 1), "-", true},
		{kn("=9.9 1.5"), x, ver(1, 6), "a:0-9", false},
		{kn("=9.9 1.5"), x, ver(2, 1), "a:0-9", false},
		{kn("=9.9 1.5"), ver(9, 8), ver(1, 5), "a:0-9", false},
		{kn("=9.9 1.5"), ver(8, 9), ver(1, 5), "a:0-9", false},
		{kn("=8.8 1.7", "=9.9 1.5", "=9.9 2.3"), x, ver(2, 3), "a:0-9", true},
		{kn("=8.8 1.7", "=9.9 1.5", "=9.9 2.3"), x, ver(1, 5), "a:0-9", true},
		{kn("=8.8 1.7", "=9.9 1.5", "=9.9 2.3"), x, ver(1, 6), "a:0-9", false},
		{kn("=8.8 1.7", "=9.9 1.5", "=9.9 2.3"), ver(8, 8), ver(1, 7), "a:0-9", true},
		{kn("=0.0 1.5"), ver(0, 0), ver(1, 5), "a:0-9", true},
		// One of both does.
		{kn("a:0-9 1.5 9.9", "=9.9 1.4"), x, ver(1, 4), "b:0-9", true},
		{kn("a:0-9 1.5 9.9", "=9.9 1.4"), x, ver(1, 5), "a:0-9", false},
		{kn("a:0-9 1.5", "=9.9 1.4"), x, ver(1, 5), "a:0-9", true},
		{kn("a:0-9 1.5", "=9.9 2.4"), x, ver(2, 4), "b:0-9", true},
		// The one at 0, and what is below 0, count as 0; what is no version is never contained.
		{kn(":0-200 0.5", "=9.9 0.5"), x, ver(0, 3), "a:0-9", false},
		{kn(":0-200 1.-5", "=9.9 1.-5"), x, ver(1, -5), "a:0-9", false},
		{kn(":0-200 1.5", "=9.9 1.5"), x, ver(1, 0), "a:0-9", false},
		{kn(":0-200 1.5", "=9.9 1.5"), x, ver(1, -1), "a:0-9", false},
		{kn(":0-200 1.5", "=9.9 1.5"), x, ver(0, 0), "a:0-9", false},
		{kn(":0-200 1.5", "=9.9 1.5"), x, ver(65, 1), "a:0-9", false},
		{kn(":0-200 1.5", "=9.9 1.5"), x, ver(-1, 1), "a:0-9", false},
		{kn(":0-200 64.5"), x, ver(64, 5), "a:0-9", true},
	}
	for _, c := range cases {
		if is := know.Contains(c.k, c.item, c.v, cs(c.f)); is != c.want {
			t.Errorf("Contains(%s, %v, %v, %s) = %t", told(c.k), c.item, c.v, c.f, is)
		}
		containsIs(t, c.k, c.item, c.v, cs(c.f))
	}
}

// P15.1: the example of the document.
func TestContainsExample(t *testing.T) {
	x := ver(3, 7)
	k := know.Grant(api.Know{}, api.Frag{F: filter.All(), V: vecOf("1.5")})
	if !know.Contains(k, x, ver(1, 3), filter.All()) || !know.Contains(k, ver(1, 1), ver(1, 3), filter.All()) {
		t.Error("behind Grant of all files the version 1 3 is not contained")
	}
	k = know.Except(k, x)
	if know.Contains(k, x, ver(1, 3), filter.All()) || !know.Contains(k, ver(1, 1), ver(1, 3), filter.All()) {
		t.Error("behind Except the version 1 3 is contained of that item, or not of another one")
	}
}

// P15.1: all knowledge of up to two claims, and some of more, of all items, versions and filters.
func TestContainsOfMany(t *testing.T) {
	items, versions := versOf("9.9,8.8,0.0,1.1"), versOf("1.1,1.2,1.3,2.1,2.2,64.1,3.1,0.1,0.0,1.0,1.-1,65.1")
	turn := turner()
	some := somer(turn)
	asked := func(k api.Know, every int) {
		for _, item := range items {
			for _, v := range versions {
				for _, f := range filters() {
					if turn(every) == 0 {
						containsIs(t, k, item, v, f)
					}
				}
			}
		}
	}
	for _, x := range frags() {
		asked(api.Know{Frags: []api.Frag{x}}, 1)
	}
	for _, x := range knowns() {
		asked(api.Know{Items: []api.Known{x}}, 1)
		for _, y := range knowns() {
			asked(api.Know{Items: []api.Known{x, y}}, 20)
		}
	}
	for range 4000 {
		asked(some(4, 2), 40)
	}
}

// P15.1, R5: numbers about all limits, and of the whole range.
func TestContainsOfEdges(t *testing.T) {
	all := filter.All()
	for _, n := range edges() {
		var v api.Vec
		for by := range v {
			v[by] = n
		}
		for _, k := range []api.Know{
			{Frags: []api.Frag{{F: all, V: v, Not: []api.Ver{ver(n, 1), ver(1, n)}}}},
			{Items: []api.Known{{Item: ver(n, 1), V: v}, {Item: ver(1, n), V: v}}},
		} {
			for _, by := range edges() {
				for _, m := range edges() {
					containsIs(t, k, ver(2, 3), ver(by, m), all)
					containsIs(t, k, ver(n, 1), ver(by, m), all)
					containsIs(t, k, ver(by, m), ver(1, 1), all)
					containsIs(t, k, ver(by, m), ver(64, n), all)
				}
			}
		}
	}
}
