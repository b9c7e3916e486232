package vers_test

import (
	"math"
	"math/big"
	"slices"
	"testing"

	"lighterage/api"
	"lighterage/vers"
)

const (
	least = math.MinInt
	most  = math.MaxInt
)

// modelCheck is what the document says of a version.
func modelCheck(v api.Ver) api.Errno {
	if 1 <= v.By && v.By <= 64 && 1 <= v.N && v.N <= 1<<63-1 {
		return api.OK
	}
	return api.ErrArg
}

// modelCheckStamp is what the document says of a stamp.
func modelCheckStamp(s api.Stamp) api.Errno {
	if modelCheck(s.Ver) == api.OK && 1 <= s.Time && s.Time <= 1<<63-1 {
		return api.OK
	}
	return api.ErrArg
}

// modelOlder tells whether a stamp is older, by the words of the document.
func modelOlder(a, b api.Stamp) bool {
	if a.Time < b.Time {
		return true
	}
	if a.Time == b.Time && a.By < b.By {
		return true
	}
	return a.Time == b.Time && a.By == b.By && a.N < b.N
}

// modelCompare is what Compare says of two stamps.
func modelCompare(a, b api.Stamp) int {
	if modelOlder(a, b) {
		return -1
	}
	if modelOlder(b, a) {
		return 1
	}
	return 0
}

// modelNewest is a stamp that is not older than any other one.
func modelNewest(l []api.Stamp) (api.Stamp, bool) {
	for _, s := range l {
		if !slices.ContainsFunc(l, func(o api.Stamp) bool { return modelOlder(s, o) }) {
			return s, true
		}
	}
	return api.Stamp{}, false
}

// modelBefore tells whether a version is ahead, by the words of the document.
func modelBefore(a, b api.Ver) bool {
	if a.By < b.By {
		return true
	}
	return a.By == b.By && a.N < b.N
}

// modelSort puts each version at the place that as many others have ahead of it.
func modelSort(l []api.Ver) []api.Ver {
	set := map[api.Ver]int{}
	for _, v := range l {
		set[v] = 0
	}
	for v := range set {
		for o := range set {
			if modelBefore(o, v) {
				set[v]++
			}
		}
	}
	sorted := make([]api.Ver, len(set))
	for v, place := range set {
		sorted[place] = v
	}
	return sorted
}

// modelNext is one more than the greatest, by numbers that know no end.
func modelNext(time int, seen []int) (int, api.Errno) {
	top := big.NewInt(0)
	for _, n := range append([]int{time}, seen...) {
		if b := big.NewInt(int64(n)); b.Cmp(top) > 0 {
			top = b
		}
	}
	top.Add(top, big.NewInt(1))
	if !top.IsInt64() {
		return 0, api.ErrCount
	}
	return int(top.Int64()), api.OK
}

// edges are numbers about the limits, and such as are a valid one in fewer bits.
func edges() []int {
	return []int{least, least + 1, -1 << 32, -64, -1, 0, 1, 2, 63, 64, 65, 257, 1<<32 + 1, most - 1, most}
}

// ver is a version.
func ver(by, n int) api.Ver {
	return api.Ver{By: by, N: n}
}

// stamp is a stamp.
func stamp(time, by, n int) api.Stamp {
	return api.Stamp{Ver: ver(by, n), Time: time}
}

// versOf are the versions of all pairs of some numbers.
func versOf(numbers ...int) []api.Ver {
	var l []api.Ver
	for _, by := range numbers {
		for _, n := range numbers {
			l = append(l, ver(by, n))
		}
	}
	return l
}

// stampsOf are the stamps of all threes of some numbers.
func stampsOf(numbers ...int) []api.Stamp {
	var l []api.Stamp
	for _, v := range versOf(numbers...) {
		for _, time := range numbers {
			l = append(l, api.Stamp{Ver: v, Time: time})
		}
	}
	return l
}

// lists are all lists of so many of some.
func lists[T any](some []T, many int) [][]T {
	l := [][]T{nil}
	for range many {
		var longer [][]T
		for _, s := range l {
			for _, one := range some {
				longer = append(longer, append(slices.Clone(s), one))
			}
		}
		l = longer
	}
	return l
}

// checkIs holds Check against the model.
func checkIs(t *testing.T, v api.Ver) {
	t.Helper()
	if e, want := vers.Check(v), modelCheck(v); e != want {
		t.Errorf("Check(%v) = %d, want %d", v, int(e), int(want))
	}
}

// checkStampIs holds CheckStamp against the model.
func checkStampIs(t *testing.T, s api.Stamp) {
	t.Helper()
	if e, want := vers.CheckStamp(s), modelCheckStamp(s); e != want {
		t.Errorf("CheckStamp(%v) = %d, want %d", s, int(e), int(want))
	}
}

// compareIs holds Compare against the model.
func compareIs(t *testing.T, a, b api.Stamp) {
	t.Helper()
	if n, want := vers.Compare(a, b), modelCompare(a, b); n != want {
		t.Errorf("Compare(%v, %v) = %d, want %d", a, b, n, want)
	}
}

// newestIs holds Newest against the model.
func newestIs(t *testing.T, l []api.Stamp) {
	t.Helper()
	want, wantIs := modelNewest(l)
	// Twice, as it hangs on nothing that was asked ahead of it.
	for range 2 {
		if s, is := vers.Newest(l...); s != want || is != wantIs {
			t.Errorf("Newest(%v) = %v, %t, want %v, %t", l, s, is, want, wantIs)
		}
	}
}

// beforeIs holds Before against the model.
func beforeIs(t *testing.T, a, b api.Ver) {
	t.Helper()
	if is, want := vers.Before(a, b), modelBefore(a, b); is != want {
		t.Errorf("Before(%v, %v) = %t", a, b, is)
	}
}

// sortIs holds Sort against the model.
func sortIs(t *testing.T, l []api.Ver) {
	t.Helper()
	want := modelSort(l)
	for range 2 {
		if s := vers.Sort(l); !slices.Equal(s, want) {
			t.Errorf("Sort(%v) = %v, want %v", l, s, want)
		}
	}
}

// nextIs holds Next against the model.
func nextIs(t *testing.T, time int, seen []int) {
	t.Helper()
	want, err := modelNext(time, seen)
	for range 2 {
		if n, e := vers.Next(time, seen...); n != want || e != err {
			t.Errorf("Next(%d, %v) = %d, %d, want %d, %d", time, seen, n, int(e), want, int(err))
		}
	}
}
