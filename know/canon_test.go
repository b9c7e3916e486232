package know_test

import (
	"slices"
	"strconv"
	"testing"

	"lighterage/api"
	"lighterage/know"
)

// P15.3: the canonical form.
func TestCanon(t *testing.T) {
	cases := []struct{ k, want api.Know }{
		{kn(), kn()},
		{api.Know{Frags: []api.Frag{}, Items: []api.Known{}}, kn()},
		// Items' claims: one of each item, with all versions that it has, none without versions, by rising items.
		{kn("=9.9 1.5"), kn("=9.9 1.5")},
		{kn("=9.9 1.5", "=9.9 1.3"), kn("=9.9 1.5")},
		{kn("=9.9 1.5", "=9.9 2.3"), kn("=9.9 1.5,2.3")},
		{kn("=9.9 1.5,2.3", "=8.8 7.7", "=9.9 1.6,2.2"), kn("=8.8 7.7", "=9.9 1.6,2.3")},
		{kn("=9.9 -"), kn()},
		{kn("=9.9 -", "=8.8 1.1"), kn("=8.8 1.1")},
		{kn("=9.9 0.5,1.-3"), kn()},
		{kn("=9.9 0.5,1.-3,2.2", "=9.9 1.1"), kn("=9.9 1.1,2.2")},
		{kn("=9.9 -", "=9.9 1.1"), kn("=9.9 1.1")},
		{kn("=3.1 1.1", "=1.3 1.1", "=2.9 1.1", "=2.10 1.1", "=10.1 1.1"), kn("=1.3 1.1", "=2.9 1.1", "=2.10 1.1", "=3.1 1.1", "=10.1 1.1")},
		{kn("=0.0 1.1", "=65.0 1.1", "=-1.4 1.1"), kn("=-1.4 1.1", "=0.0 1.1", "=65.0 1.1")},
		// Whole claims: F in normal form, V clean, Not a set.
		{kn("a:0-9 1.5"), kn("a:0-9 1.5")},
		{kn("a:0-9,:0-5 1.5"), kn(":0-5,a:6-9 1.5")},
		{kn("a:5-9,a:0-4,a:2-3 1.5"), kn("a:0-9 1.5")},
		{kn("a:0-9 0.7,1.5,2.-4"), kn("a:0-9 1.5")},
		{kn("a:0-9 1.5 9.9,8.8,9.9,9.1"), kn("a:0-9 1.5 8.8,9.1,9.9")},
		{kn("a:0-9 1.5 0.0,-1.3,65.1,1.0"), kn("a:0-9 1.5 -1.3,0.0,1.0,65.1")},
		// None without a clause, or without versions.
		{kn("- 1.5"), kn()},
		{kn("a:0-9 -"), kn()},
		{kn("a:0-9 0.5,3.-1"), kn()},
		{kn("- 1.5", "a:0-9 1.5"), kn("a:0-9 1.5")},
		{kn("a:0-9 -", "a:0-9 1.5 9.9"), kn("a:0-9 1.5 9.9")},
		// Of those with the same V and Not one, whose F is the join of theirs.
		{kn("a:0-9 1.5", "a:0-9 1.5"), kn("a:0-9 1.5")},
		{kn("a:0-9 1.5", "b:0-9 1.5"), kn("a:0-9,b:0-9 1.5")},
		{kn("b:0-9 1.5", "a:0-9 1.5"), kn("a:0-9,b:0-9 1.5")},
		{kn("a:0-9 1.5", "a:10-20 1.5", ":0-3 1.5"), kn(":0-3,a:4-20 1.5")},
		{kn("a:0-9 1.5,0.3", "b:0-9 1.5,7.-1"), kn("a:0-9,b:0-9 1.5")},
		{kn("a:0-9 1.5 9.9,8.8", "b:0-9 1.5 8.8,9.9,8.8"), kn("a:0-9,b:0-9 1.5 8.8,9.9")},
		{kn("a:0-9 1.5 9.9", "b:0-9 1.5 8.8"), kn("b:0-9 1.5 8.8", "a:0-9 1.5 9.9")},
		{kn("a:0-9 1.5", "b:0-9 1.4"), kn("a:0-9 1.5", "b:0-9 1.4")},
		{kn("a:0-9 1.5", "b:0-9 1.4", "c:0-9 1.5", "d:0-9 1.4"), kn("a:0-9,c:0-9 1.5", "b:0-9,d:0-9 1.4")},
		// None that another one includes: by F, by V, by Not, by all of them.
		{kn("a:0-9 1.5", "a:0-9 1.4"), kn("a:0-9 1.5")},
		{kn("a:0-9 1.4", "a:0-9 1.5"), kn("a:0-9 1.5")},
		{kn("a:0-9 1.4", "a/b:3-4 1.3"), kn("a:0-9 1.4")},
		{kn("a:0-9 1.4 9.9", "a:0-9 1.4"), kn("a:0-9 1.4")},
		{kn("a:0-9 1.4 9.9", "a:0-9 1.4 9.9,8.8"), kn("a:0-9 1.4 9.9")},
		{kn("a:0-9 1.4 8.8,9.9", "a:0-9 1.4 8.8"), kn("a:0-9 1.4 8.8")},
		{kn("a:3-4 1.3 8.8,9.9", "a:0-9 1.4,2.1 9.9"), kn("a:0-9 1.4,2.1 9.9")},
		{kn("a:0-9 1.5", "a:0-9 1.3", "a:0-9 1.4", "a:0-9 1.2"), kn("a:0-9 1.5")},
		// But one that has more in one of these stays.
		{kn("a:0-9 1.5", "a:0-10 1.4"), kn("a:0-9 1.5", "a:0-10 1.4")},
		{kn("a:0-9 1.5", "a:0-9 1.4,2.1"), kn("a:0-9 1.5", "a:0-9 1.4,2.1")},
		{kn("a:0-9 1.5 9.9", "a:0-9 1.4"), kn("a:0-9 1.5 9.9", "a:0-9 1.4")},
		{kn("a:0-9 1.5 9.9", "a:0-9 1.4 8.8"), kn("a:0-9 1.5 9.9", "a:0-9 1.4 8.8")},
		{kn("a:0-9 1.5 9.9", "a:0-9 1.5 8.8"), kn("a:0-9 1.5 8.8", "a:0-9 1.5 9.9")},
		{kn("a:0-9 1.5 9.9", "a/b:3-4 1.5"), kn("a/b:3-4 1.5", "a:0-9 1.5 9.9")},
		// One that several others have together, but none of them alone, stays.
		{kn("a:0-9 1.5", "b:0-9 1.5 9.9", "a:3-4,b:3-4 1.4 9.9"), kn("a:0-9 1.5", "b:0-9 1.5 9.9", "a:3-4,b:3-4 1.4 9.9")},
		// What becomes one, does so ahead of what is included.
		{kn("a:0-9 1.5", "a:0-9 1.4", "b:0-9 1.4"), kn("a:0-9 1.5", "a:0-9,b:0-9 1.4")},
		{kn("a:0-9 1.5", "b:0-9 1.5", "a:0-9,b:0-9 1.4"), kn("a:0-9,b:0-9 1.5")},
		{kn("a:0-9,b:0-9 1.4", "b:0-9 1.5", "a:0-9 1.5"), kn("a:0-9,b:0-9 1.5")},
		// By V: the first number that differs decides, the greater one is ahead.
		{kn("a:0-9 1.1", "b:0-9 1.2"), kn("b:0-9 1.2", "a:0-9 1.1")},
		{kn("a:0-9 2.9", "b:0-9 1.1"), kn("b:0-9 1.1", "a:0-9 2.9")},
		{kn("a:0-9 1.1,3.9", "b:0-9 1.1,2.1"), kn("b:0-9 1.1,2.1", "a:0-9 1.1,3.9")},
		{kn("a:0-9 1.1,64.1", "b:0-9 1.1,64.2"), kn("b:0-9 1.1,64.2", "a:0-9 1.1,64.1")},
		{kn("a:0-9 0.9,1.1", "b:0-9 1.2"), kn("b:0-9 1.2", "a:0-9 1.1")},
		{kn("a:0-9 1.10", "b:0-9 1.9", "c:0-9 1.100"), kn("c:0-9 1.100", "a:0-9 1.10", "b:0-9 1.9")},
		// Then by Not: the first item that differs decides, a beginning is ahead.
		{kn("a:0-9 1.1 2.1", "b:0-9 1.1 1.9"), kn("b:0-9 1.1 1.9", "a:0-9 1.1 2.1")},
		{kn("a:0-9 1.1 2.10", "b:0-9 1.1 2.9"), kn("b:0-9 1.1 2.9", "a:0-9 1.1 2.10")},
		{kn("a:0-9 1.1 1.1", "b:0-9 1.1"), kn("b:0-9 1.1", "a:0-9 1.1 1.1")},
		{kn("a:0-9 1.1 1.1,2.2", "b:0-9 1.1 1.1"), kn("b:0-9 1.1 1.1", "a:0-9 1.1 1.1,2.2")},
		{kn("a:0-9 1.1 2.2", "b:0-9 1.1 1.1,2.2"), kn("b:0-9 1.1 1.1,2.2", "a:0-9 1.1 2.2")},
		{kn("a:0-9 1.1 1.1,3.1", "b:0-9 1.1 1.1,2.9,4.4"), kn("b:0-9 1.1 1.1,2.9,4.4", "a:0-9 1.1 1.1,3.1")},
		{kn("a:0-9 1.1 -1.9", "b:0-9 1.1 0.0"), kn("a:0-9 1.1 -1.9", "b:0-9 1.1 0.0")},
		// Both are nothing to one another.
		{kn("a:0-9 1.5", "=9.9 1.4"), kn("a:0-9 1.5", "=9.9 1.4")},
		{kn(":0-200 1.5", "=9.9 1.4"), kn(":0-200 1.5", "=9.9 1.4")},
	}
	for _, c := range cases {
		knowIs(t, "Canon", know.Canon(c.k), c.want, c.k)
		canonIs(t, c.k)
		slices.Reverse(c.k.Frags)
		slices.Reverse(c.k.Items)
		knowIs(t, "Canon", know.Canon(c.k), c.want, c.k)
	}
}

// P15.3: all pairs of whole claims, and all pairs of items' claims.
func TestCanonOfPairs(t *testing.T) {
	l := frags()
	for _, x := range l {
		canonIs(t, api.Know{Frags: []api.Frag{x}})
		for _, y := range l {
			canonIs(t, api.Know{Frags: []api.Frag{x, y}})
		}
	}
	for _, x := range knowns() {
		canonIs(t, api.Know{Items: []api.Known{x}})
		for _, y := range knowns() {
			canonIs(t, api.Know{Items: []api.Known{x, y}})
		}
	}
}

// P15.3: knowledge of more claims, in all orders.
func TestCanonOfMany(t *testing.T) {
	turn := turner()
	some := somer(turn)
	for range 15000 {
		canonIs(t, some(7, 5))
	}
	for range 300 {
		k := some(5, 5)
		want := know.Canon(k)
		for range 10 {
			k = api.Know{Frags: mixed(k.Frags, turn), Items: mixed(k.Items, turn)}
			knowIs(t, "Canon", know.Canon(k), want, k)
		}
	}
}

// P15.3, R5: numbers about all limits, and of the whole range, at all places of a vector.
func TestCanonOfEdges(t *testing.T) {
	var all api.Know
	for _, n := range edges() {
		for by := range api.MaxBy + 1 {
			var v api.Vec
			v[by] = n
			all.Frags = append(all.Frags, api.Frag{F: []api.Clause{clause("p"+strconv.Itoa(by), 0, 9)}, V: v})
			all.Items = append(all.Items, api.Known{Item: ver(n, by), V: v}, api.Known{Item: ver(by, n), V: v})
		}
		for _, m := range edges() {
			all.Frags = append(all.Frags, api.Frag{F: cs("a:0-200"), V: api.Vec{n, m, n}, Not: []api.Ver{ver(n, m), ver(m, n), ver(n, n)}})
			all.Frags = append(all.Frags, api.Frag{F: cs("a:0-200"), V: api.Vec{64: m}, Not: []api.Ver{ver(m, n), ver(m, m)}})
			all.Items = append(all.Items, api.Known{Item: ver(m, n), V: api.Vec{n, m, n}})
		}
		canonIs(t, all)
		all.Frags = all.Frags[:0]
	}
}

// P15.3, R5: claims of the same V, that differ in Not alone, by items of such numbers.
func TestCanonOfEdgesInNot(t *testing.T) {
	var k api.Know
	for i, n := range edges() {
		for _, m := range edges() {
			k.Frags = append(k.Frags, api.Frag{F: cs("a:0-9"), V: vecOf("1.5"), Not: []api.Ver{ver(n, m)}})
			if i > 0 {
				k.Frags = append(k.Frags, api.Frag{F: cs("b:0-9"), V: vecOf("1.5"), Not: []api.Ver{ver(n, m), ver(edges()[i-1], m)}})
			}
		}
	}
	canonIs(t, k)
	canonIs(t, api.Know{Frags: mixed(k.Frags, turner())})
}

// P15.3: long lists of claims.
func TestCanonOfLong(t *testing.T) {
	const many = 20000
	var k api.Know
	for i := range many {
		// 7919 has no part in common with so many, so that each number comes up once.
		n := i * 7919 % many
		k.Items = append(k.Items, api.Known{Item: ver(1+n/100, 1+n%100), V: api.Vec{1: n, 2: 1}}, api.Known{Item: ver(1+n/100, 1+n%100), V: api.Vec{3: 1}})
		k.Frags = append(k.Frags, api.Frag{F: []api.Clause{clause("a"+strconv.Itoa(100000+n), 0, 9)}, V: vecOf("1.5"), Not: versOf("9.9")})
	}
	c := know.Canon(k)
	if len(c.Items) != many || len(c.Frags) != 1 || len(c.Frags[0].F) != many {
		t.Fatalf("%d items' claims, %d whole claims", len(c.Items), len(c.Frags))
	}
	for n, x := range c.Items {
		if want := (api.Known{Item: ver(1+n/100, 1+n%100), V: api.Vec{1: n, 2: 1, 3: 1}}); x != want {
			t.Fatalf("at %d there is %v", n, x)
		}
	}
	for n, x := range c.Frags[0].F {
		if x != clause("a"+strconv.Itoa(100000+n), 0, 9) {
			t.Fatalf("at %d there is %v", n, x)
		}
	}
	k.Frags = append(k.Frags, api.Frag{F: cs(":0-200"), V: vecOf("1.5,2.1")})
	if c = know.Compact(k, cs("a:0-9")); len(c.Items) != many || len(c.Frags) != 1 {
		t.Errorf("%d items' claims, %d whole claims", len(c.Items), len(c.Frags))
	}
	k.Frags = append(k.Frags, api.Frag{F: cs(":0-200"), V: vecOf("1.20000,2.1,3.1"), Not: versOf("1.1,200.100")})
	if c = know.Compact(k, cs("a:0-9")); len(c.Items) != 2 {
		t.Errorf("%d items' claims", len(c.Items))
	}
}
