package pack_test

import (
	"testing"

	"lighterage/api"
)

// reader makes the function that reads numbers out of bytes: most are small, now and then one about the limits.
func reader(s []byte) func() int {
	far := edges()
	return func() int {
		if len(s) == 0 {
			return 0
		}
		b := int(s[0])
		s = s[1:]
		if b >= 225 {
			return far[b%len(far)]
		}
		return b % 6
	}
}

// some are as many things as next tells, or none.
func some[T any](next func() int, one func() T) []T {
	var l []T
	for range next() & 7 {
		l = append(l, one())
	}
	return l
}

// anyKnow reads knowledge, most of which may be.
func anyKnow(next func() int) api.Know {
	names := append([]string{"", "a", "a/b", "b"}, paths()...)
	anyVec := func() api.Vec {
		var v api.Vec
		for range next() & 3 {
			v[next()&63+next()&1] = next()
		}
		return v
	}
	var last api.Ver
	anyVer := func() api.Ver {
		// More often than not it comes behind the last one.
		if v := ver(next(), next()); next() == 1 {
			last = v
		} else {
			last = ver(max(last.By, 1), max(last.N, 0)&0xffff+1)
		}
		return last
	}
	anyClause := func() api.Clause {
		lo := next()
		return clause(names[next()&3+next()/5&15], lo, lo&63+next())
	}
	anyFrag := func() api.Frag {
		last = api.Ver{}
		return api.Frag{F: some(next, anyClause), V: anyVec(), Not: some(next, anyVer)}
	}
	anyKnown := func() api.Known {
		return api.Known{Item: anyVer(), V: anyVec()}
	}
	return api.Know{Frags: some(next, anyFrag), Items: some(next, anyKnown)}
}

// getsAre holds all Gets of bytes against the model.
func getsAre(t *testing.T, s string) {
	t.Helper()
	updates().getIs(t, s)
	metas().getIs(t, s)
	vectors().getIs(t, s)
	items().getIs(t, s)
	filters().getIs(t, s)
	knowledge().getIs(t, s)
}

// P17.1 to P17.3, R1: whatever the bytes are, and whatever is laid.
func FuzzPack(f *testing.F) {
	f.Add("", "a/b", "xyz", false, 1, 1, 1, 1, 4, []byte{})
	f.Add("\x01\x02\x03\x04\x05\x01a\x02xy\x00", "a", "", true, 64, most, 64, 1, most, []byte{1, 1, 1, 1, 1, 0, 0, 0, 1, 1, 2, 1, 1, 1, 2, 0})
	f.Add("\x02\x02\x01\x05\x03\x03\xac\x02", "", "x", true, 65, 0, 0, 65, least, []byte{2, 2, 1, 0, 1, 3, 0, 2, 2, 1, 1, 1, 3, 1, 0, 1, 2, 2, 2, 2, 1, 1, 1, 5})
	f.Add("\x02\x04\x01b\x01\x01\x04\x01a\x02\x09", "A", "\xff", false, 2, 2, 2, 2, 2, []byte{5, 3, 225, 226, 227, 228, 229, 230, 231, 232, 233, 234, 235, 236, 237, 238, 239, 240})
	f.Add(toldKnow(small()), "a/b/c", "data", false, 3, 128, 4, 16384, 1<<56, []byte{1, 1, 0, 1, 0, 9, 1, 1, 0, 5, 2, 1, 1, 0, 0, 0, 0})
	f.Fuzz(func(t *testing.T, s, p, data string, dead bool, by, n, ownBy, ownN, at int, b []byte) {
		getsAre(t, s)
		u := api.Update{Item: ver(by, n), Stamp: stamp(ownBy, ownN, at), Path: p, Data: data, Dead: dead}
		updates().putIs(t, u)
		metas().putIs(t, api.Meta{Item: u.Item, Stamp: u.Stamp, Path: p, Size: n, Dead: dead})
		k := anyKnow(reader(b))
		knowledge().putIs(t, k)
		knowledge().getIs(t, toldKnow(k))
		for _, x := range k.Frags {
			filters().putIs(t, x.F)
			filters().getIs(t, toldFilter(x.F))
			vectors().putIs(t, x.V)
			vectors().getIs(t, toldVec(x.V))
			items().putIs(t, x.Not)
			items().getIs(t, toldItems(x.Not))
		}
	})
}
