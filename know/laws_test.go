package know_test

import (
	"testing"

	"lighterage/api"
	"lighterage/cover"
	"lighterage/know"
)

// asks calls a function of items, versions and filters, of all of those that claims of tests speak of, and others.
func asks(call func(item, v api.Ver, f []api.Clause)) {
	for _, item := range versOf("9.9,8.8,0.0,7.7") {
		for _, v := range versOf("1.1,1.2,1.3,2.1,64.1,0.1") {
			for _, f := range filters() {
				call(item, v, f)
			}
		}
	}
}

// P15.5: the canonical form contains the same.
func TestCanonContainsTheSame(t *testing.T) {
	turn := turner()
	some := somer(turn)
	for range 600 {
		k := some(5, 3)
		c := know.Canon(k)
		asks(func(item, v api.Ver, f []api.Clause) {
			if know.Contains(k, item, v, f) != know.Contains(c, item, v, f) {
				t.Errorf("%s and %s do not contain the same of %v: %v, for %v", told(k), told(c), item, v, f)
			}
		})
	}
}

// P15.5: what one of two contains, both together contain.
func TestUnionContainsBoth(t *testing.T) {
	turn := turner()
	some := somer(turn)
	for range 600 {
		a, b := some(3, 2), some(3, 2)
		u := know.Union(a, b)
		asks(func(item, v api.Ver, f []api.Clause) {
			if (know.Contains(a, item, v, f) || know.Contains(b, item, v, f)) && !know.Contains(u, item, v, f) {
				t.Errorf("%s or %s contains of %v: %v, for %v, and %s does not", told(a), told(b), item, v, f, told(u))
			}
		})
	}
}

// P15.5: behind Except nothing is contained of the item, and of others what was.
func TestExceptContainsOthers(t *testing.T) {
	turn := turner()
	some := somer(turn)
	for range 600 {
		k := some(4, 3)
		gone := oneOf(versOf("9.9,8.8,0.0,7.7"), turn)
		e := know.Except(k, gone)
		asks(func(item, v api.Ver, f []api.Clause) {
			is := know.Contains(e, item, v, f)
			if item == gone && is || item != gone && is != know.Contains(k, item, v, f) {
				t.Errorf("%s without %v contains of %v: %v, for %v: %t", told(k), gone, item, v, f, is)
			}
		})
	}
}

// P15.6: what is contained behind Restrict, for a filter that has no more, was contained.
func TestRestrictContainsNoMore(t *testing.T) {
	turn := turner()
	some := somer(turn)
	for i := range 900 {
		k := some(4, 2)
		g := filters()[i%len(filters())]
		r := know.Restrict(k, g)
		asks(func(item, v api.Ver, f []api.Clause) {
			if !cover.Subsumes(g, f) {
				return
			}
			is, was := know.Contains(r, item, v, f), know.Contains(k, item, v, f)
			if is && !was {
				t.Errorf("%s, restricted to %v, contains of %v: %v, for %v", told(k), g, item, v, f)
			}
			// A filter of no clause says nothing of which claims are left for it.
			if was && !is && len(f) > 0 {
				t.Errorf("%s, restricted to %v, does not contain of %v: %v, for %v", told(k), g, item, v, f)
			}
		})
	}
}

// P15.2: what was added, or granted, is contained, and what was contained still is.
func TestMoreContainsMore(t *testing.T) {
	turn := turner()
	some := somer(turn)
	l := frags()
	for range 600 {
		k := some(3, 2)
		one, last := oneOf(versOf("9.9,8.8,0.0,7.7"), turn), oneOf(versOf("1.1,1.3,2.1,64.1"), turn)
		x := oneOf(l, turn)
		added, granted := know.Add(k, one, last), know.Grant(k, x)
		asks(func(item, v api.Ver, f []api.Clause) {
			was := know.Contains(k, item, v, f)
			want := was || item == one && v.By == last.By && v.N <= last.N && v.N > 0
			if is := know.Contains(added, item, v, f); is != want {
				t.Errorf("%s with %v %v contains of %v: %v, for %v: %t", told(k), one, last, item, v, f, is)
			}
			want = was || know.Contains(api.Know{Frags: []api.Frag{x}}, item, v, f)
			if want && !know.Contains(granted, item, v, f) {
				t.Errorf("%s with %v does not contain of %v: %v, for %v", told(k), x, item, v, f)
			}
		})
	}
}
