package update_test

import (
	"testing"

	"lighterage/api"
)

// reader makes the function that reads numbers out of bytes: most are small, now and then one about the limits.
func reader(s []byte) func() int {
	far := edges()
	return func() int {
		if len(s) == 0 {
			return 0
		}
		b := int(s[0])
		s = s[1:]
		if b >= 200 {
			return far[b%len(far)]
		}
		return b % 4
	}
}

// updatesIn reads updates out of bytes.
func updatesIn(s []byte) []api.Update {
	names := paths()
	next := reader(s)
	var l []api.Update
	for range min(len(s)/8, 20) {
		u := up(ver(next(), next()), stamp(next(), next(), next()), names[next()&15], long(next()&255))
		u.Dead = next()&1 == 1
		l = append(l, u)
	}
	return l
}

// filterIn reads clauses out of bytes.
func filterIn(s []byte) []api.Clause {
	names := append(paths(), "")
	next := reader(s)
	var f []api.Clause
	for range min(len(s)/3, 10) {
		f = append(f, clause(names[next()&15], next(), next()))
	}
	return f
}

// P16.1 to P16.3, R1: whatever the texts and the numbers are.
func FuzzUpdates(f *testing.F) {
	f.Add("a/b", "xyz", false, 1, 1, 1, 1, 4, 3, []byte{}, []byte{0, 0, 255})
	f.Add("a", "x", true, 64, most, 64, 1, most, -1, []byte{1, 1, 1, 1, 1, 0, 0, 0, 1, 1, 2, 1, 1, 1, 2, 0}, []byte{0, 0, 210, 1, 1, 2})
	f.Add("", long(201), true, 65, 0, 0, 65, least, 201, []byte{1, 1, 1, 1, 1, 0, 2, 0, 1, 1, 1, 1, 1, 1, 2, 0, 200, 201, 202, 203, 204, 205, 206, 207}, []byte{})
	f.Add("aaaaaaaaaaaaa", "\xff", false, 2, 2, 2, 2, 2, 200, []byte{2, 1, 1, 1, 1, 0, 0, 1, 1, 2, 1, 1, 1, 0, 0, 1}, []byte{255, 255, 255})
	f.Fuzz(func(t *testing.T, p, data string, dead bool, by, n, ownBy, ownN, at, size int, s, clauses []byte) {
		u := api.Update{Item: ver(by, n), Stamp: stamp(at, ownBy, ownN), Path: p, Data: data, Dead: dead}
		l, g := append(updatesIn(s), u), filterIn(clauses)
		for _, a := range l {
			partsAre(t, a)
			matchIs(t, g, a)
			m := modelMeta(a)
			m.Size = size
			checkMetaIs(t, m)
			matchMetaIs(t, g, m)
			for _, b := range l {
				winsIs(t, a, b)
			}
		}
		listIs(t, l, ver(ownBy, ownN), g)
		listIs(t, l, ver(1, 1), every())
	})
}
