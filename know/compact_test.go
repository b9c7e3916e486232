package know_test

import (
	"testing"

	"lighterage/api"
	"lighterage/know"
)

// P15.4: items' claims that whole claims have.
func TestCompact(t *testing.T) {
	cases := []struct {
		k    api.Know
		f    string
		want api.Know
	}{
		{kn(), "a:0-9", kn()},
		{kn("=9.9 1.5"), "a:0-9", kn("=9.9 1.5")},
		{kn("=9.9 1.5"), "-", kn("=9.9 1.5")},
		{kn("a:0-9 1.5", "=9.9 1.5"), "a:0-9", kn("a:0-9 1.5")},
		{kn("a:0-9 1.5", "=9.9 1.4"), "a:0-9", kn("a:0-9 1.5")},
		{kn("a:0-9 1.5", "=9.9 1.6"), "a:0-9", kn("a:0-9 1.5", "=9.9 1.6")},
		// All last versions have to be contained, not one alone.
		{kn("a:0-9 1.5,2.3", "=9.9 1.5,2.3"), "a:0-9", kn("a:0-9 1.5,2.3")},
		{kn("a:0-9 1.5,2.3", "=9.9 1.5,2.4"), "a:0-9", kn("a:0-9 1.5,2.3", "=9.9 1.5,2.4")},
		{kn("a:0-9 1.5,2.3", "=9.9 1.6,2.3"), "a:0-9", kn("a:0-9 1.5,2.3", "=9.9 1.6,2.3")},
		{kn("a:0-9 1.5,2.3", "=9.9 1.5,3.1"), "a:0-9", kn("a:0-9 1.5,2.3", "=9.9 1.5,3.1")},
		// Each may be so by other claims.
		{kn("a:0-9 1.5", "a:0-9 2.3", "=9.9 1.5,2.3"), "a:0-9", kn("a:0-9 1.5", "a:0-9 2.3")},
		{kn("a:0-4 1.5", "a:5-9 1.4", "=9.9 1.4"), "a:0-9", kn("a:0-4 1.5", "a:5-9 1.4")},
		{kn("a:0-4 1.5", "a:5-9 1.4", "=9.9 1.5"), "a:0-9", kn("a:0-4 1.5", "a:5-9 1.4", "=9.9 1.5")},
		// As far as the filter goes.
		{kn("a:0-9 1.5", "=9.9 1.5"), "a/b:3-4", kn("a:0-9 1.5")},
		{kn("a:0-9 1.5", "=9.9 1.5"), "a:0-10", kn("a:0-9 1.5", "=9.9 1.5")},
		{kn("a:0-9 1.5", "=9.9 1.5"), ":0-200", kn("a:0-9 1.5", "=9.9 1.5")},
		{kn("a:0-9 1.5", "=9.9 1.5"), "-", kn("a:0-9 1.5")},
		{kn("- 1.5", "=9.9 1.5"), "-", kn("=9.9 1.5")},
		// Not of an item of Not, and not by items' claims.
		{kn("a:0-9 1.5 9.9", "=9.9 1.5", "=8.8 1.5"), "a:0-9", kn("a:0-9 1.5 9.9", "=9.9 1.5")},
		{kn("=9.9 1.5", "=9.9 1.4", "=8.8 1.5"), "a:0-9", kn("=8.8 1.5", "=9.9 1.5")},
		// What is not canonical becomes so.
		{kn("a:0-9 1.5,0.7,2.-3 8.8,7.7,8.8", "a:3-4 1.1 7.7,8.8", "=9.9 1.5", "=9.8 1.4", "=9.8 1.6", "=9.7 -"), "a:3-4,a:5-9", kn("a:0-9 1.5 7.7,8.8", "=9.8 1.6")},
		{kn("a:0-9 1.5", "=9.9 1.5", "=9.9 2.1"), "a:0-9", kn("a:0-9 1.5", "=9.9 1.5,2.1")},
	}
	for _, c := range cases {
		knowIs(t, "Compact", know.Compact(c.k, cs(c.f)), c.want, c.k)
		oneIs(t, c.k, ver(9, 9), ver(1, 4), cs(c.f))
	}
}

// P15.4: what is compacted contains the same, for the filter.
func TestCompactContainsTheSame(t *testing.T) {
	turn := turner()
	some, asked := somer(turn), filters()
	for range 1500 {
		k, f := some(4, 4), oneOf(asked, turn)
		c := know.Compact(k, f)
		for _, item := range versOf("9.9,8.8,0.0,7.7") {
			for _, v := range versOf("1.1,1.2,2.1,64.1,0.1") {
				if know.Contains(k, item, v, f) != know.Contains(c, item, v, f) {
					t.Errorf("%s and %s, compacted for %v, do not contain the same of %v: %v", told(k), told(c), f, item, v)
				}
			}
		}
	}
}

// P15.4: whether two have the same canonical form.
func TestSame(t *testing.T) {
	cases := []struct {
		a, b api.Know
		want bool
	}{
		{kn(), kn(), true},
		{kn(), api.Know{Frags: []api.Frag{}, Items: []api.Known{}}, true},
		{kn(), kn("- 1.5", "a:0-9 -", "=9.9 -", "=8.8 0.5,1.-1"), true},
		{kn(), kn("a:0-9 1.5"), false},
		{kn(), kn("=9.9 1.5"), false},
		{kn("a:0-9 1.5"), kn("a:0-9 1.5"), true},
		{kn("a:0-9 1.5"), kn("a:5-9,a:0-4 0.1,1.5,2.-1"), true},
		{kn("a:0-9 1.5"), kn("a:0-8 1.5"), false},
		{kn("a:0-9 1.5"), kn("b:0-9 1.5"), false},
		{kn("a:0-9 1.5"), kn("a:0-9 1.6"), false},
		{kn("a:0-9 1.5"), kn("a:0-9 2.5"), false},
		{kn("a:0-9 1.5"), kn("a:0-9 1.5 9.9"), false},
		{kn("a:0-9 1.5 8.8,9.9"), kn("a:0-9 1.5 9.9,8.8,9.9"), true},
		{kn("a:0-9 1.5 8.8,9.9"), kn("a:0-9 1.5 8.8,9.8"), false},
		{kn("a:0-9 1.5 8.8,9.9"), kn("a:0-9 1.5 8.8"), false},
		{kn("a:0-9 1.5", "b:0-9 1.5"), kn("b:0-9,a:0-9 1.5"), true},
		{kn("a:0-9 1.5", "b:0-9 1.6"), kn("b:0-9 1.6", "a:0-9 1.5"), true},
		{kn("a:0-9 1.5", "b:0-9 1.6"), kn("a:0-9 1.6", "b:0-9 1.5"), false},
		{kn("a:0-9 1.5", "a:0-5 1.4"), kn("a:0-9 1.5"), true},
		{kn("a:0-9 1.5", "a:0-10 1.4"), kn("a:0-9 1.5"), false},
		{kn("=9.9 1.5"), kn("=9.9 1.5", "=9.9 1.4"), true},
		{kn("=9.9 1.5", "=8.8 1.1"), kn("=8.8 1.1", "=9.9 1.5"), true},
		{kn("=9.9 1.5"), kn("=9.9 1.6"), false},
		{kn("=9.9 1.5"), kn("=9.8 1.5"), false},
		{kn("=9.9 1.5"), kn("=9.9 1.5", "=8.8 1.1"), false},
		{kn("a:0-9 1.5", "=9.9 1.5"), kn("a:0-9 1.5"), false},
		// These contain the same, but by claims of another form.
		{kn(":0-200 1.5", "=9.9 1.5"), kn(":0-200 1.5"), false},
	}
	for _, c := range cases {
		if is, other := know.Same(c.a, c.b), know.Same(c.b, c.a); is != c.want || other != c.want {
			t.Errorf("Same of %s and %s = %t, the other way %t", told(c.a), told(c.b), is, other)
		}
		twoIs(t, c.a, c.b)
		twoIs(t, c.a, c.a)
	}
}
