package vers_test

import (
	"testing"

	"lighterage/api"
)

// stampsIn reads stamps out of bytes: most are near one another, now and then a number about the limits.
func stampsIn(s []byte) []api.Stamp {
	far := edges()
	number := func(b byte) int {
		if b >= 200 {
			return far[int(b)%len(far)]
		}
		return int(b) % 5
	}
	var l []api.Stamp
	for ; len(s) >= 3 && len(l) < 40; s = s[3:] {
		l = append(l, stamp(number(s[0]), number(s[1]), number(s[2])))
	}
	return l
}

// P12.1 to P12.5, R1: whatever the numbers are.
func FuzzStamps(f *testing.F) {
	f.Add(5, 2, 1, []byte{5, 3, 1, 5, 2, 9})
	f.Add(0, 0, 0, []byte{})
	f.Add(most, 64, most, []byte{1, 1, 1, 1, 1, 1, 2, 1, 1, 1, 2, 1})
	f.Add(least, 65, -1, []byte{200, 201, 202, 203, 204, 205, 206, 207, 208, 209, 210, 211, 212, 213, 214})
	f.Fuzz(func(t *testing.T, time, by, n int, s []byte) {
		l := append(stampsIn(s), stamp(time, by, n))
		var versions []api.Ver
		var times []int
		for _, a := range l {
			checkIs(t, a.Ver)
			checkStampIs(t, a)
			for _, b := range l {
				compareIs(t, a, b)
				beforeIs(t, a.Ver, b.Ver)
			}
			versions, times = append(versions, a.Ver), append(times, a.Time)
		}
		newestIs(t, l)
		sortIs(t, versions)
		nextIs(t, time, times)
		nextIs(t, by, times[:len(times)-1])
	})
}
