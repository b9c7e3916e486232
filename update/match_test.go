package update_test

import (
	"testing"

	"lighterage/api"
	"lighterage/update"
)

// P16.2: metas and files, of updates that may be, and of others.
func TestMetaAndFile(t *testing.T) {
	cases := []struct {
		u    api.Update
		meta api.Meta
		file api.File
	}{
		{
			up(ver(1, 2), stamp(3, 4, 5), "a/b", "xyz"),
			api.Meta{Item: ver(1, 2), Stamp: stamp(3, 4, 5), Path: "a/b", Size: 3},
			api.File{Path: "a/b", Size: 3},
		},
		{
			gone(ver(1, 2), stamp(3, 4, 5), "a"),
			api.Meta{Item: ver(1, 2), Stamp: stamp(3, 4, 5), Path: "a", Dead: true},
			api.File{Path: "a", Dead: true},
		},
		{
			api.Update{Item: ver(-1, 99), Stamp: stamp(least, most, -7), Path: "//", Data: "\xff€", Dead: true},
			api.Meta{Item: ver(-1, 99), Stamp: stamp(least, most, -7), Path: "//", Size: 4, Dead: true},
			api.File{Path: "//", Size: 4, Dead: true},
		},
		{
			up(ver(1, 1), stamp(1, 1, 1), "", long(70000)),
			api.Meta{Item: ver(1, 1), Stamp: stamp(1, 1, 1), Size: 70000},
			api.File{Size: 70000},
		},
		{api.Update{}, api.Meta{}, api.File{}},
	}
	for _, c := range cases {
		if m := update.Meta(c.u); m != c.meta {
			t.Errorf("Meta(%v) = %v, want %v", c.u, m, c.meta)
		}
		if x := update.File(c.u); x != c.file {
			t.Errorf("File(%v) = %v, want %v", c.u, x, c.file)
		}
		partsAre(t, c.u)
	}
}

// P16.2: which updates filters match.
func TestMatch(t *testing.T) {
	x, s := ver(1, 1), stamp(1, 1, 1)
	f := []api.Clause{clause("a", 0, 2), clause("a/b", 5, 9), clause("c", 200, 200)}
	cases := []struct {
		f    []api.Clause
		u    api.Update
		want bool
	}{
		{nil, up(x, s, "a", ""), false},
		{nil, gone(x, s, "a"), false},
		{every(), up(x, s, "a", ""), true},
		{every(), up(x, s, "a/b/c", long(200)), true},
		{every(), up(x, s, "a", long(201)), false},
		{every(), gone(x, s, "a"), true},
		{f, up(x, s, "a", "12"), true},
		{f, up(x, s, "a", "123"), false},
		{f, up(x, s, "a/b", "1234"), false},
		{f, up(x, s, "a/b", "12345"), true},
		{f, up(x, s, "a/b/c", "123456789"), true},
		{f, up(x, s, "a/b/c", "0123456789"), false},
		{f, up(x, s, "ab", "1"), false},
		{f, up(x, s, "c", long(200)), true},
		{f, up(x, s, "c", long(199)), false},
		// Of what is Dead the size says nothing, whatever it is.
		{f, gone(x, s, "c/d"), true},
		{f, gone(x, s, "b"), false},
		{f, api.Update{Item: x, Stamp: s, Path: "c", Data: "x", Dead: true}, true},
		{f, api.Update{Item: x, Stamp: s, Path: "c", Data: long(999), Dead: true}, true},
		// Nobody asks whether an update may be.
		{every(), api.Update{}, true},
		{f, api.Update{Path: "a//", Data: "1"}, true},
		{[]api.Clause{clause("A", -5, 999)}, api.Update{Path: "A/B", Data: "1"}, true},
		{[]api.Clause{clause("a", 9, 3)}, api.Update{Path: "a", Data: "12345"}, false},
	}
	for _, c := range cases {
		if is := update.Match(c.f, c.u); is != c.want {
			t.Errorf("Match(%v, %v) = %t", c.f, c.u, is)
		}
		if is := update.MatchMeta(c.f, update.Meta(c.u)); is != c.want {
			t.Errorf("MatchMeta(%v, the meta of %v) = %t", c.f, c.u, is)
		}
		matchIs(t, c.f, c.u)
	}
}

// clauses are clauses that may be, and some that may not.
func clauses() []api.Clause {
	var l []api.Clause
	for _, p := range []string{"", "a", "a/b", "a/bc", "a/", "A"} {
		for _, r := range [][2]int{{0, 200}, {0, 0}, {1, 3}, {200, 200}, {3, 1}, {least, most}, {-1, 0}} {
			l = append(l, clause(p, r[0], r[1]))
		}
	}
	return l
}

// P16.2: all filters of one clause and of two, with paths about theirs and numbers about the limits.
func TestMatchEdges(t *testing.T) {
	var filters [][]api.Clause
	for n := range 3 {
		filters = append(filters, lists(clauses(), n)...)
	}
	for _, f := range filters {
		for _, p := range []string{"", "a", "a/b", "a/bc", "a/b/c", "ab", "b", "A/a", "a/"} {
			for _, dead := range []bool{false, true} {
				for _, n := range []int{0, 1, 3, 4, 200, 201} {
					matchIs(t, f, api.Update{Path: p, Data: long(n), Dead: dead})
				}
				for _, n := range []int{least, -1, 0, 2, 200, most} {
					matchMetaIs(t, f, api.Meta{Path: p, Size: n, Dead: dead})
				}
			}
		}
	}
}

// P16.2: neither the item nor the stamp is anything to a filter.
func TestMatchOfFileAlone(t *testing.T) {
	f := []api.Clause{clause("a", 1, 3)}
	for _, n := range edges() {
		for _, p := range []string{"a", "b"} {
			matchIs(t, f, up(ver(n, n), stamp(n, n, n), p, "12"))
			matchIs(t, f, gone(ver(n, n), stamp(n, n, n), p))
		}
	}
}
