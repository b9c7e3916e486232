package know_test

import (
	"strings"
	"testing"

	"lighterage/api"
	"lighterage/know"
)

// sameAgain holds that calls of any knowledge end, and answer the same again.
func sameAgain(t *testing.T, a, b api.Know, item, v api.Ver, f []api.Clause) {
	t.Helper()
	calls := knowCalls()
	calls["Add of any"] = func(a, _ api.Know, _ []api.Clause) api.Know { return know.Add(a, item, v) }
	calls["Except of any"] = func(a, _ api.Know, _ []api.Clause) api.Know { return know.Except(a, item) }
	for name, call := range calls {
		if !same(call(a, b, f), call(a, b, f)) {
			t.Errorf("%s of %s and %s is not the same again", name, told(a), told(b))
		}
	}
	if know.Contains(a, item, v, f) != know.Contains(a, item, v, f) || know.Same(a, b) != know.Same(a, b) {
		t.Errorf("Contains or Same of %s and %s is not the same again", told(a), told(b))
	}
	if !know.Same(a, a) {
		t.Errorf("%s is not the same as itself", told(a))
	}
}

// R1: filters that may not be, about which nothing else is promised.
func TestAnyFilters(t *testing.T) {
	var bad [][]api.Clause
	for _, p := range []string{"", "a", "/", "//", "a/", "A", "\xff/a", "\x00", strings.Repeat("a/", 1<<10)} {
		for _, r := range [][2]int{{0, 200}, {7, 3}, {-9, 4}, {200, most}, {least, most}, {most, least}, {least, least}} {
			bad = append(bad, []api.Clause{clause(p, r[0], r[1])}, []api.Clause{clause("a", 0, 9), clause(p, r[0], r[1])})
		}
	}
	for i, f := range bad {
		g := bad[(5*i+3)%len(bad)]
		a := api.Know{Frags: []api.Frag{{F: f, V: vecOf("1.5")}, {F: g, V: vecOf("1.5")}, {F: f, V: vecOf("1.4,2.1"), Not: versOf("9.9")}}}
		b := api.Know{Frags: []api.Frag{{F: g, V: vecOf("1.6")}}, Items: kn("=9.9 1.5").Items}
		sameAgain(t, a, b, ver(9, 9), ver(1, 5), g)
		sameAgain(t, b, a, ver(9, 9), ver(1, 5), f)
		sameAgain(t, a, b, ver(8, 9), ver(1, 5), nil)
	}
}

// reader makes the function that reads numbers out of bytes: most are small, now and then one about the limits.
func reader(s []byte) func() int {
	far := edges()
	return func() int {
		if len(s) == 0 {
			return 0
		}
		b := int(s[0])
		s = s[1:]
		if b >= 230 {
			return far[b%len(far)]
		}
		return b % 6
	}
}

// knowIn reads knowledge.
func knowIn(next func() int) api.Know {
	vector := func() api.Vec {
		var v api.Vec
		for range next() & 3 {
			v[next()&63+next()&1] = next()
		}
		return v
	}
	all := filters()
	var k api.Know
	for range next() & 7 {
		x := api.Frag{F: all[(next()&255)%len(all)], V: vector()}
		if next() == 5 {
			x.F = append(x.F[:len(x.F):len(x.F)], clause([]string{"", "a", "a/b", "b"}[next()&3], 3, 3+next()&63))
		}
		for range next() & 3 {
			x.Not = append(x.Not, ver(next(), next()))
		}
		k.Frags = append(k.Frags, x)
	}
	for range next() & 7 {
		k.Items = append(k.Items, api.Known{Item: ver(next(), next()), V: vector()})
	}
	return k
}

// P15.1 to P15.6, R1: whatever the claims are.
func FuzzKnow(f *testing.F) {
	f.Add([]byte{})
	f.Add([]byte{2, 1, 1, 1, 0, 5, 0, 0, 2, 1, 1, 0, 4, 0, 0, 1, 9, 9, 1, 1, 0, 3})
	f.Add([]byte{3, 1, 2, 1, 0, 2, 2, 0, 1, 0, 1, 3, 3, 2, 1, 1, 0, 2, 0, 2, 3, 3, 4, 4, 2, 1, 1, 1, 0, 2, 0, 0, 1, 3, 3, 1, 1, 0, 1})
	f.Add([]byte{5, 0, 3, 230, 231, 232, 233, 234, 235, 236, 237, 238, 239, 240, 241, 242, 243, 244, 245, 246, 247, 248})
	f.Fuzz(func(t *testing.T, s []byte) {
		next := reader(s)
		a, b := knowIn(next), knowIn(next)
		item, v, all := ver(next(), next()), ver(next(), next()), filters()
		g := all[(next()&255)%len(all)]
		for _, k := range []api.Know{a, b, know.Restrict(a, g), know.Except(b, item)} {
			canonIs(t, k)
			oneIs(t, k, item, v, g)
			for _, x := range k.Items {
				oneIs(t, k, x.Item, ver(v.By, x.V[v.By&63]), g)
			}
		}
		twoIs(t, a, b)
		twoIs(t, b, a)
		sameAgain(t, a, b, item, v, g)
		if !know.Same(a, know.Union(a, a)) {
			t.Errorf("%s and itself are another one", told(a))
		}
	})
}
