package vec_test

import (
	"testing"

	"lighterage/api"
)

// numberIn is what a byte stands for: most are near one another, now and then one about the limits.
func numberIn(b byte) int {
	if far := edges(); b >= 200 {
		return far[int(b)%len(far)]
	}
	return int(b)%9 - 2
}

// vectorIn reads a vector out of bytes: a place and its number, one pair behind the other.
func vectorIn(s []byte) api.Vec {
	var v api.Vec
	for ; len(s) >= 2; s = s[2:] {
		v[int(s[0])%len(v)] = numberIn(s[1])
	}
	return v
}

// versIn reads versions out of bytes.
func versIn(s []byte) []api.Ver {
	var l []api.Ver
	for ; len(s) >= 2 && len(l) < 100; s = s[2:] {
		l = append(l, ver(numberIn(s[0]), numberIn(s[1])))
	}
	return l
}

// P13.1 to P13.4, R1: whatever the numbers are.
func FuzzVectors(f *testing.F) {
	f.Add(2, 1, []byte{}, []byte{})
	f.Add(1, 3, []byte{1, 7, 64, 4}, []byte{1, 5, 7, 3})
	f.Add(most, least, []byte{0, 200, 1, 201, 2, 202, 3, 203, 4, 204}, []byte{0, 214, 1, 213, 2, 212, 3, 211, 4, 210})
	f.Add(65, most, []byte{63, 0, 64, 1, 65, 2, 66, 3}, []byte{205, 205, 206, 206, 207, 207})
	f.Fuzz(func(t *testing.T, by, n int, x, y []byte) {
		a, b := vectorIn(x), vectorIn(y)
		l := append(near(a, b), ver(by, n))
		for _, v := range []api.Vec{a, b} {
			oneIs(t, v)
			for _, x := range l {
				hasIs(t, v, x)
			}
		}
		ofIs(t, append(versIn(x), ver(by, n)))
		ofIs(t, versIn(y))
		for _, two := range [][2]api.Vec{{a, b}, {b, a}, {a, a}} {
			twoIs(t, two[0], two[1])
			setsAre(t, two[0], two[1], l)
		}
	})
}
