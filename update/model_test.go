package update_test

import (
	"math"
	"regexp"
	"slices"
	"strings"
	"testing"

	"lighterage/api"
	"lighterage/update"
)

const (
	least = math.MinInt
	most  = math.MaxInt
)

var (
	nameForm = regexp.MustCompile(`\A[a-z0-9._-]{1,12}\z`)
	onlyDots = regexp.MustCompile(`\A\.*\z`)
)

// modelVer tells whether a version is valid.
func modelVer(v api.Ver) bool {
	return 1 <= v.By && v.By <= 64 && 1 <= v.N && v.N <= 1<<63-1
}

// modelPath tells whether a text is a path.
func modelPath(s string) bool {
	l := strings.Split(s, "/")
	return len(l) <= 6 && len(s) <= 40 && !slices.ContainsFunc(l, func(name string) bool {
		return !nameForm.MatchString(name) || onlyDots.MatchString(name)
	})
}

// modelFaults is of each error, in their order, whether it applies to something of so many bytes.
func modelFaults(item api.Ver, s api.Stamp, p string, size int, dead bool) []api.Errno {
	var l []api.Errno
	if !modelVer(item) || !modelVer(s.Ver) || s.Time < 1 {
		l = append(l, api.ErrArg)
	}
	if !modelPath(p) {
		l = append(l, api.ErrPath)
	}
	if size > 200 {
		l = append(l, api.ErrBig)
	}
	if dead && size != 0 || size < 0 {
		l = append(l, api.ErrForm)
	}
	return append(l, api.OK)
}

// modelCheck is what the document says of an update.
func modelCheck(u api.Update) api.Errno {
	return modelFaults(u.Item, u.Stamp, u.Path, len(u.Data), u.Dead)[0]
}

// modelCheckMeta is what the document says of a meta.
func modelCheckMeta(m api.Meta) api.Errno {
	return modelFaults(m.Item, m.Stamp, m.Path, m.Size, m.Dead)[0]
}

// modelMeta is an update's meta.
func modelMeta(u api.Update) api.Meta {
	var m api.Meta
	m.Item, m.Ver, m.Time = u.Item, u.Ver, u.Time
	m.Path, m.Dead = u.Path, u.Dead
	m.Size = len(u.Data)
	return m
}

// modelMatch tells whether a filter matches a path and a size.
func modelMatch(f []api.Clause, p string, size int, dead bool) bool {
	for _, c := range f {
		covers := c.Prefix == "" || c.Prefix == p || strings.HasPrefix(p, c.Prefix+"/")
		// A range has no other sizes than those that there are.
		has := size >= 0 && size <= 200 && c.Lo <= size && size <= c.Hi
		if covers && (dead || has) {
			return true
		}
	}
	return false
}

// modelWins tells whether the stamp of b is older than that of a, by the words of the document.
func modelWins(a, b api.Update) bool {
	older := func(s, o api.Stamp) bool {
		return s.Time < o.Time || s.Time == o.Time && s.By < o.By || s.Time == o.Time && s.By == o.By && s.N < o.N
	}
	return older(b.Stamp, a.Stamp)
}

// modelBest is the first update of an item over which no other one of the item wins.
func modelBest(l []api.Update, item api.Ver) (api.Update, bool) {
updates:
	for _, u := range l {
		if u.Item != item {
			continue
		}
		for _, o := range l {
			if o.Item == item && modelWins(o, u) {
				continue updates
			}
		}
		return u, true
	}
	return api.Update{}, false
}

// modelView puts the best update of each item at the place that as many lesser items have ahead of it, and leaves out what is not matched.
func modelView(l []api.Update, f []api.Clause) []api.Update {
	set := map[api.Ver]int{}
	for _, u := range l {
		set[u.Item] = 0
	}
	for x := range set {
		for o := range set {
			if o.By < x.By || o.By == x.By && o.N < x.N {
				set[x]++
			}
		}
	}
	all := make([]api.Update, len(set))
	for x, place := range set {
		all[place], _ = modelBest(l, x)
	}
	return slices.DeleteFunc(all, func(u api.Update) bool { return !modelMatch(f, u.Path, len(u.Data), u.Dead) })
}

// ver is a version.
func ver(by, n int) api.Ver {
	return api.Ver{By: by, N: n}
}

// stamp is a stamp.
func stamp(time, by, n int) api.Stamp {
	return api.Stamp{Ver: ver(by, n), Time: time}
}

// up is an update.
func up(item api.Ver, s api.Stamp, p, data string) api.Update {
	return api.Update{Item: item, Stamp: s, Path: p, Data: data}
}

// gone is an update that is Dead.
func gone(item api.Ver, s api.Stamp, p string) api.Update {
	return api.Update{Item: item, Stamp: s, Path: p, Dead: true}
}

// clause is a prefix and a range in one.
func clause(p string, lo, hi int) api.Clause {
	return api.Clause{Prefix: p, Range: api.Range{Lo: lo, Hi: hi}}
}

// every is the filter of all files.
func every() []api.Clause {
	return []api.Clause{clause("", 0, 200)}
}

// edges are numbers about the limits, and such as are a valid one in fewer bits.
func edges() []int {
	return []int{least, least + 1, -1 << 32, -1, 0, 1, 2, 63, 64, 65, 199, 200, 201, 257, 1<<32 + 1, most - 1, most}
}

// lists are all lists of so many of some.
func lists[T any](some []T, many int) [][]T {
	l := [][]T{nil}
	for range many {
		var longer [][]T
		for _, s := range l {
			for _, one := range some {
				longer = append(longer, append(slices.Clone(s), one))
			}
		}
		l = longer
	}
	return l
}

// checkIs holds Check against the model.
func checkIs(t *testing.T, u api.Update) {
	t.Helper()
	if e, want := update.Check(u), modelCheck(u); e != want {
		t.Errorf("Check(%v) = %d, want %d", u, int(e), int(want))
	}
}

// checkMetaIs holds CheckMeta against the model.
func checkMetaIs(t *testing.T, m api.Meta) {
	t.Helper()
	if e, want := update.CheckMeta(m), modelCheckMeta(m); e != want {
		t.Errorf("CheckMeta(%v) = %d, want %d", m, int(e), int(want))
	}
}

// partsAre holds what is told of an update by itself against the model.
func partsAre(t *testing.T, u api.Update) {
	t.Helper()
	checkIs(t, u)
	checkMetaIs(t, modelMeta(u))
	if m, want := update.Meta(u), modelMeta(u); m != want {
		t.Errorf("Meta(%v) = %v, want %v", u, m, want)
	}
	if x, want := update.File(u), (api.File{Path: u.Path, Size: len(u.Data), Dead: u.Dead}); x != want {
		t.Errorf("File(%v) = %v, want %v", u, x, want)
	}
}

// matchIs holds Match, and MatchMeta of the meta, against the model.
func matchIs(t *testing.T, f []api.Clause, u api.Update) {
	t.Helper()
	want := modelMatch(f, u.Path, len(u.Data), u.Dead)
	if is := update.Match(f, u); is != want {
		t.Errorf("Match(%v, %v) = %t", f, u, is)
	}
	if is := update.MatchMeta(f, modelMeta(u)); is != want {
		t.Errorf("MatchMeta(%v, the meta of %v) = %t", f, u, is)
	}
}

// matchMetaIs holds MatchMeta against the model.
func matchMetaIs(t *testing.T, f []api.Clause, m api.Meta) {
	t.Helper()
	if is, want := update.MatchMeta(f, m), modelMatch(f, m.Path, m.Size, m.Dead); is != want {
		t.Errorf("MatchMeta(%v, %v) = %t", f, m, is)
	}
}

// winsIs holds Wins against the model.
func winsIs(t *testing.T, a, b api.Update) {
	t.Helper()
	if is, want := update.Wins(a, b), modelWins(a, b); is != want {
		t.Errorf("Wins(%v, %v) = %t", a, b, is)
	}
}

// bestIs holds Best against the model.
func bestIs(t *testing.T, l []api.Update, item api.Ver) {
	t.Helper()
	want, wantIs := modelBest(l, item)
	// Twice, as it hangs on nothing that was asked ahead of it.
	for range 2 {
		if u, is := update.Best(l, item); u != want || is != wantIs {
			t.Errorf("Best(%v, %v) = %v, %t, want %v, %t", l, item, u, is, want, wantIs)
		}
	}
}

// viewIs holds View against the model.
func viewIs(t *testing.T, l []api.Update, f []api.Clause) {
	t.Helper()
	want := modelView(l, f)
	for range 2 {
		if v := update.View(l, f); !slices.Equal(v, want) {
			t.Errorf("View(%v, %v) = %v, want %v", l, f, v, want)
		}
	}
}

// listIs holds what is told of a list of updates against the model: of all its items, and of one that it may not have.
func listIs(t *testing.T, l []api.Update, item api.Ver, f []api.Clause) {
	t.Helper()
	bestIs(t, l, item)
	for _, u := range l {
		bestIs(t, l, u.Item)
	}
	viewIs(t, l, f)
}
