package know_test

import (
	"testing"

	"lighterage/api"
	"lighterage/know"
)

// P15.2: one more version of an item.
func TestAdd(t *testing.T) {
	x := ver(9, 9)
	cases := []struct {
		k       api.Know
		item, v api.Ver
		want    api.Know
	}{
		{kn(), x, ver(1, 5), kn("=9.9 1.5")},
		{kn(), ver(0, 0), ver(64, most), api.Know{Items: []api.Known{{V: api.Vec{64: most}}}}},
		{kn("=9.9 1.5"), x, ver(1, 4), kn("=9.9 1.5")},
		{kn("=9.9 1.5"), x, ver(1, 5), kn("=9.9 1.5")},
		{kn("=9.9 1.5"), x, ver(1, 6), kn("=9.9 1.6")},
		{kn("=9.9 1.5"), x, ver(2, 1), kn("=9.9 1.5,2.1")},
		{kn("=9.9 1.5"), ver(9, 8), ver(2, 1), kn("=9.8 2.1", "=9.9 1.5")},
		{kn("=9.9 1.5"), ver(10, 1), ver(2, 1), kn("=9.9 1.5", "=10.1 2.1")},
		// An item that has several claims has one, then.
		{kn("=9.9 1.5", "=8.8 1.1", "=9.9 2.3"), x, ver(3, 1), kn("=8.8 1.1", "=9.9 1.5,2.3,3.1")},
		// What is no version is not had; the claim that it would make has none, and is none.
		{kn(), x, ver(0, 1), kn()},
		{kn(), x, ver(65, 1), kn()},
		{kn(), x, ver(1, 0), kn()},
		{kn(), x, ver(-1, 1), kn()},
		{kn("=9.9 0.3,1.5,2.-1"), x, ver(1, -1), kn("=9.9 1.5")},
		{kn("=9.9 1.5"), ver(8, 8), ver(257, 1), kn("=9.9 1.5")},
		// Whole claims stay, in canonical form, though they have the version.
		{kn("a:0-9 1.4", ":0-200 1.5"), x, ver(1, 3), kn(":0-200 1.5", "=9.9 1.3")},
		{kn(":0-200 1.5 9.9"), x, ver(1, 3), kn(":0-200 1.5 9.9", "=9.9 1.3")},
	}
	for _, c := range cases {
		knowIs(t, "Add", know.Add(c.k, c.item, c.v), c.want, c.k)
		oneIs(t, c.k, c.item, c.v, cs("a:0-9"))
	}
}

// P15.2: one more whole claim.
func TestGrant(t *testing.T) {
	cases := []struct{ k, x, want api.Know }{
		{kn(), kn("a:0-9 1.5"), kn("a:0-9 1.5")},
		{kn(), kn("a:0-9,:0-5 0.1,1.5,2.-1 9.9,8.8,9.9"), kn(":0-5,a:6-9 1.5 8.8,9.9")},
		{kn(), kn("- 1.5"), kn()},
		{kn(), kn("a:0-9 -"), kn()},
		{kn("a:0-9 1.5"), kn("a:0-9 1.5"), kn("a:0-9 1.5")},
		{kn("a:0-9 1.5"), kn("b:0-9 1.5"), kn("a:0-9,b:0-9 1.5")},
		{kn("a:0-9 1.5"), kn("b:0-9 1.6"), kn("b:0-9 1.6", "a:0-9 1.5")},
		{kn("a:0-9 1.5"), kn("a:0-9 1.6"), kn("a:0-9 1.6")},
		{kn("a:0-9 1.5"), kn("a:0-9 1.4 9.9"), kn("a:0-9 1.5")},
		{kn("a:0-9 1.5"), kn("a:0-9 1.6 9.9"), kn("a:0-9 1.6 9.9", "a:0-9 1.5")},
		// Items' claims stay, though the whole claim has their versions.
		{kn("=9.9 1.5", "=8.8 1.1", "=9.9 2.1"), kn(":0-200 1.5"), kn(":0-200 1.5", "=8.8 1.1", "=9.9 1.5,2.1")},
	}
	for _, c := range cases {
		knowIs(t, "Grant", know.Grant(c.k, c.x.Frags[0]), c.want, c.k, c.x)
		twoIs(t, c.k, c.x)
	}
}

// P15.2: an item of which nothing is claimed.
func TestExcept(t *testing.T) {
	x := ver(9, 9)
	cases := []struct {
		k    api.Know
		item api.Ver
		want api.Know
	}{
		{kn(), x, kn()},
		{kn("=9.9 1.5"), x, kn()},
		{kn("=9.9 1.5", "=9.8 1.5", "=8.9 1.5", "=9.9 2.1"), x, kn("=8.9 1.5", "=9.8 1.5")},
		{kn("=8.8 1.5", "=8.8 2.3"), x, kn("=8.8 1.5,2.3")},
		{kn("a:0-9 1.5"), x, kn("a:0-9 1.5 9.9")},
		{kn("a:0-9 1.5 9.9"), x, kn("a:0-9 1.5 9.9")},
		{kn("a:0-9 1.5 10.1,8.8"), x, kn("a:0-9 1.5 8.8,9.9,10.1")},
		{kn("a:0-9 1.5", "b:0-9 1.4 8.8"), x, kn("a:0-9 1.5 9.9", "b:0-9 1.4 8.8,9.9")},
		{kn("a:0-9 1.5", "=9.9 1.5"), ver(0, 0), kn("a:0-9 1.5 0.0", "=9.9 1.5")},
		// Those whose Not is then the same become one, and one is included that was not.
		{kn("a:0-9 1.5 9.9", "b:0-9 1.5"), x, kn("a:0-9,b:0-9 1.5 9.9")},
		{kn("a:0-9 1.5 9.9", "a:0-9 1.4"), x, kn("a:0-9 1.5 9.9")},
		{kn("- 1.5", "a:0-9 -", "=8.8 -"), x, kn()},
	}
	for _, c := range cases {
		knowIs(t, "Except", know.Except(c.k, c.item), c.want, c.k)
		oneIs(t, c.k, c.item, ver(1, 4), cs("a:0-9"))
	}
}

// P15.2: whole claims that go no farther than a filter.
func TestRestrict(t *testing.T) {
	cases := []struct {
		k    api.Know
		f    string
		want api.Know
	}{
		{kn(), "a:0-9", kn()},
		{kn("a:0-9 1.5"), ":0-200", kn("a:0-9 1.5")},
		{kn(":0-200 1.5"), "a:0-9", kn("a:0-9 1.5")},
		{kn("a:0-9 1.5"), "a/b:3-14", kn("a/b:3-9 1.5")},
		{kn("a:0-9 1.5"), "b:0-9", kn()},
		{kn("a:0-9 1.5"), "a:10-20", kn()},
		{kn("a:0-9 1.5"), "-", kn()},
		{kn("a:0-9,b:0-9 1.5 9.9", "c:0-9 1.6"), "b:5-200,d:0-200", kn("b:5-9 1.5 9.9")},
		// Of what is restricted one is included that was not; those with the same V and Not are one ahead of it, or behind.
		{kn("a:0-9 1.5", ":0-200 1.4"), "a:0-5", kn("a:0-5 1.5")},
		{kn("a:0-9 1.5", "a/b:0-200 1.5"), "a/b:0-200", kn("a/b:0-200 1.5")},
		{kn("- 1.5"), ":0-200", kn()},
		// Items' claims stay, whatever the filter.
		{kn("a:0-9 1.5", "=9.9 1.5", "=8.8 1.1", "=9.9 2.1"), "-", kn("=8.8 1.1", "=9.9 1.5,2.1")},
	}
	for _, c := range cases {
		knowIs(t, "Restrict", know.Restrict(c.k, cs(c.f)), c.want, c.k)
		oneIs(t, c.k, ver(9, 9), ver(1, 4), cs(c.f))
	}
}

// P15.2: the claims of both.
func TestUnion(t *testing.T) {
	cases := []struct{ a, b, want api.Know }{
		{kn(), kn(), kn()},
		{kn("a:0-9 1.5", "=9.9 1.1"), kn(), kn("a:0-9 1.5", "=9.9 1.1")},
		{kn("a:0-9 1.5"), kn("=9.9 1.1"), kn("a:0-9 1.5", "=9.9 1.1")},
		{kn("a:0-9 1.5", "=9.9 1.1"), kn("b:0-9 1.5", "=9.9 2.1", "=8.8 3.1"), kn("a:0-9,b:0-9 1.5", "=8.8 3.1", "=9.9 1.1,2.1")},
		{kn("a:0-9 1.5"), kn("a:0-9 1.6", "b:0-9 1.4"), kn("a:0-9 1.6", "b:0-9 1.4")},
		{kn("a:0-9 1.5 9.9"), kn("a:0-9 1.5 8.8"), kn("a:0-9 1.5 8.8", "a:0-9 1.5 9.9")},
		{kn("=9.9 -", "- 1.1"), kn("=8.8 -", "a:0-9 -"), kn()},
	}
	for _, c := range cases {
		knowIs(t, "Union", know.Union(c.a, c.b), c.want, c.a, c.b)
		knowIs(t, "Union", know.Union(c.b, c.a), c.want, c.b, c.a)
		twoIs(t, c.a, c.b)
	}
}

// P15.2, P15.4: all calls of much knowledge, some of it in no canonical form.
func TestCallsOfMany(t *testing.T) {
	turn := turner()
	some := somer(turn)
	items, versions := versOf("9.9,8.8,0.0,7.7"), versOf("1.1,1.2,1.3,2.1,64.1,3.1,0.1,1.0,65.1")
	asked := filters()
	for range 6000 {
		a, b := some(4, 3), some(3, 3)
		oneIs(t, a, oneOf(items, turn), oneOf(versions, turn), oneOf(asked, turn))
		twoIs(t, a, b)
	}
}

// P15.2, R5: items, versions and vectors of numbers about all limits, and of the whole range.
func TestCallsOfEdges(t *testing.T) {
	for _, n := range edges() {
		k := kn("a:0-9 1.5 9.9", ":0-200 1.4", "=9.9 1.5")
		k.Frags[0].V[2], k.Frags[0].V[0], k.Items[0].V[64], k.Items[0].V[0] = n, n, n, n
		for _, m := range edges() {
			oneIs(t, k, ver(n, m), ver(m, n), cs("a:0-9"))
			oneIs(t, k, ver(9, 9), ver(n, m), cs("a:0-9"))
			twoIs(t, k, know.Add(know.Except(k, ver(n, m)), ver(m, n), ver(64, n)))
		}
	}
}
