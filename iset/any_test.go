package iset_test

import (
	"testing"

	"lighterage/api"
)

// itemsIn reads items out of bytes: most are near one another, now and then one about the limits.
func itemsIn(s []byte) []api.Ver {
	far := edges()
	number := func(b byte) int {
		if b >= 200 {
			return far[int(b)%len(far)]
		}
		return int(b) % 7
	}
	var l []api.Ver
	for ; len(s) >= 2 && len(l) < 60; s = s[2:] {
		l = append(l, ver(number(s[0]), number(s[1])))
	}
	return l
}

// P14.1 to P14.3, R1: whatever the numbers are.
func FuzzSets(f *testing.F) {
	f.Add(2, 1, []byte{}, []byte{})
	f.Add(1, 3, []byte{2, 1, 1, 3, 2, 1}, []byte{1, 3})
	f.Add(most, least, []byte{200, 201, 202, 203, 204, 205}, []byte{204, 205, 200, 201, 6, 6})
	f.Add(0, 0, []byte{0, 0, 5, 5, 0, 0, 4, 4, 3, 3, 2, 2, 1, 1}, []byte{5, 5, 3, 3, 1, 1, 7, 7})
	f.Fuzz(func(t *testing.T, by, n int, x, y []byte) {
		a, b := itemsIn(x), itemsIn(y)
		own := ver(by, n)
		for _, l := range [][]api.Ver{a, b, append([]api.Ver{own}, a...)} {
			ofIs(t, l)
			for _, x := range append(b, own) {
				oneIs(t, l, x)
			}
		}
		for _, two := range [][2][]api.Ver{{a, b}, {b, a}, {a, a}, {append(a, own), b}, {a, append(b, own)}} {
			twoIs(t, two[0], two[1])
		}
	})
}
