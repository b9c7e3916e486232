package filter_test

import (
	"slices"
	"strings"
	"testing"

	"lighterage/api"
	"lighterage/filter"
)

// P9.2: which files filters match.
func TestMatch(t *testing.T) {
	f := cs("a:0-10", "a:11-20", "a/b:5-30", "c/d:7-7")
	cases := []struct {
		f    []api.Clause
		x    api.File
		want bool
	}{
		{nil, api.File{Path: "a"}, false},
		{nil, api.File{Path: "a", Dead: true}, false},
		{f, api.File{Path: "a", Size: 0}, true},
		{f, api.File{Path: "a", Size: 20}, true},
		{f, api.File{Path: "a", Size: 21}, false},
		{f, api.File{Path: "a/x", Size: 10}, true},
		{f, api.File{Path: "a/x", Size: 11}, true},
		{f, api.File{Path: "a/b", Size: 21}, true},
		{f, api.File{Path: "a/b", Size: 30}, true},
		{f, api.File{Path: "a/b", Size: 31}, false},
		{f, api.File{Path: "a/b/c", Size: 25}, true},
		{f, api.File{Path: "a/b/c", Size: 2}, true},
		{f, api.File{Path: "a/c", Size: 25}, false},
		{f, api.File{Path: "a/c", Size: 99, Dead: true}, true},
		{f, api.File{Path: "a/bc", Size: 25}, false},
		{f, api.File{Path: "ab", Size: 5}, false},
		{f, api.File{Path: "ab", Size: 5, Dead: true}, false},
		{f, api.File{Path: "c", Size: 7}, false},
		{f, api.File{Path: "c", Size: 7, Dead: true}, false},
		{f, api.File{Path: "c/d", Size: 7}, true},
		{f, api.File{Path: "c/d/e", Size: 7}, true},
		{f, api.File{Path: "c/d", Size: 6}, false},
		{f, api.File{Path: "c/d", Size: 8}, false},
		{f, api.File{Path: "c/d", Size: 8, Dead: true}, true},
		{f, api.File{Path: "", Size: 7}, false},
		{cs(":3-5"), api.File{Path: "", Size: 4}, true},
		{cs(":3-5"), api.File{Path: "x/y", Size: 5}, true},
		{cs(":3-5"), api.File{Path: "x/y", Size: 6}, false},
		// One clause has the path, another one the size.
		{cs("a:0-9", "b:10-20"), api.File{Path: "a", Size: 15}, false},
		{cs("a:0-9", "b:10-20"), api.File{Path: "b", Size: 5}, false},
		{cs("a:0-9", "b:10-20"), api.File{Path: "b", Size: 15}, true},
		{cs("a:0-9", "b:10-20"), api.File{Path: "b", Size: 500, Dead: true}, true},
		{cs("a:0-9", "b:10-20"), api.File{Path: "c", Size: 15, Dead: true}, false},
		// Of what was deleted the size says nothing, whatever it is.
		{cs("a:3-5"), api.File{Path: "a", Size: least, Dead: true}, true},
		{cs("a:3-5"), api.File{Path: "a", Size: most, Dead: true}, true},
		// Clauses and files that may not be.
		{[]api.Clause{clause("a", 9, 3)}, api.File{Path: "a", Size: 5}, false},
		{[]api.Clause{clause("a", 9, 3)}, api.File{Path: "a", Size: 5, Dead: true}, true},
		{[]api.Clause{clause("a", least, most)}, api.File{Path: "a", Size: 0}, true},
		{[]api.Clause{clause("a", least, most)}, api.File{Path: "a", Size: 200}, true},
		{[]api.Clause{clause("a", least, most)}, api.File{Path: "a", Size: -1}, false},
		{[]api.Clause{clause("a", least, most)}, api.File{Path: "a", Size: 201}, false},
		{[]api.Clause{clause("a/", 0, 9)}, api.File{Path: "a/b", Size: 5}, false},
		{[]api.Clause{clause("a/", 0, 9)}, api.File{Path: "a//b", Size: 5}, true},
		{[]api.Clause{clause("A", 0, 9)}, api.File{Path: "A/b", Size: 5}, true},
		{[]api.Clause{clause("\xff", 0, 9)}, api.File{Path: "\xff", Size: 5}, true},
	}
	for _, c := range cases {
		if is := filter.Match(c.f, c.x); is != c.want {
			t.Errorf("Match(%v, %v) = %v", c.f, c.x, is)
		}
		if is := modelMatch(c.f, c.x); is != c.want {
			t.Errorf("the model's Match(%v, %v) = %v", c.f, c.x, is)
		}
	}
}

// P9.2: which sizes filters have at paths.
func TestSizes(t *testing.T) {
	f := cs("a/b:21-30", "a:0-10", ":40-40", "a:11-15", "a/b/c:20-22")
	cases := []struct {
		f    []api.Clause
		p    string
		want []api.Range
	}{
		{nil, "", nil},
		{nil, "a", nil},
		{f, "", []api.Range{{Lo: 40, Hi: 40}}},
		{f, "b", []api.Range{{Lo: 40, Hi: 40}}},
		{f, "ab", []api.Range{{Lo: 40, Hi: 40}}},
		{f, "a", []api.Range{{Lo: 0, Hi: 15}, {Lo: 40, Hi: 40}}},
		{f, "a/c", []api.Range{{Lo: 0, Hi: 15}, {Lo: 40, Hi: 40}}},
		{f, "a/b", []api.Range{{Lo: 0, Hi: 15}, {Lo: 21, Hi: 30}, {Lo: 40, Hi: 40}}},
		{f, "a/bc", []api.Range{{Lo: 0, Hi: 15}, {Lo: 40, Hi: 40}}},
		{f, "a/b/c", []api.Range{{Lo: 0, Hi: 15}, {Lo: 20, Hi: 30}, {Lo: 40, Hi: 40}}},
		{f, "a/b/c/d", []api.Range{{Lo: 0, Hi: 15}, {Lo: 20, Hi: 30}, {Lo: 40, Hi: 40}}},
		{cs("a:0-9"), "", nil},
		{cs("a/b:0-9"), "a", nil},
		// Clauses that may not be have the sizes that there are.
		{[]api.Clause{clause("a", -5, 3), clause("a", 9, 6), clause("a", 199, 300)}, "a", []api.Range{{Lo: 0, Hi: 3}, {Lo: 199, Hi: 200}}},
		{[]api.Clause{clause("", least, most)}, "\x00//", []api.Range{{Lo: 0, Hi: 200}}},
		{[]api.Clause{clause("", least, -1), clause("", 201, most), clause("", most, least)}, "a", nil},
		{[]api.Clause{clause("/", 1, 2)}, "//", []api.Range{{Lo: 1, Hi: 2}}},
		{[]api.Clause{clause("/", 1, 2)}, "/a", nil},
	}
	for _, c := range cases {
		if l := filter.Sizes(c.f, c.p); !slices.Equal(l, c.want) {
			t.Errorf("Sizes(%v, %q) = %v, want %v", c.f, c.p, l, c.want)
		}
		sizesAre(t, c.f, c.p)
		matchIs(t, c.f, c.p)
	}
}

// anyClauses are clauses of all kinds, also such as may not be.
func anyClauses() []api.Clause {
	return all(append(below(), "/", "a/", "A", "\xff/a"),
		api.Range{Lo: 0, Hi: 200}, api.Range{Lo: 3, Hi: 5}, api.Range{Lo: 6, Hi: 6}, api.Range{Lo: 5, Hi: 199}, api.Range{Lo: 0, Hi: 0},
		api.Range{Lo: 7, Hi: 3}, api.Range{Lo: -9, Hi: 4}, api.Range{Lo: 200, Hi: most}, api.Range{Lo: least, Hi: most}, api.Range{Lo: most, Hi: least})
}

// P9.2, R5: all filters of one clause and of some two, at all paths, of any clauses.
func TestAnyClauses(t *testing.T) {
	l := anyClauses()
	texts := append(below(), "a/b/c/d", "a/b/", "a//b", "/", "//", "A/a", "\xff/a/b", "b/a/a", "ab/c", "x")
	for i, c := range l {
		for _, p := range texts {
			sizesAre(t, []api.Clause{c}, p)
			matchIs(t, []api.Clause{c}, p)
			f := []api.Clause{c, l[(7*i+3)%len(l)], l[(i+11)%len(l)]}
			sizesAre(t, f, p)
			matchIs(t, f, p)
		}
	}
}

// P9.2, R1: very many clauses, and very long texts.
func TestLongOnes(t *testing.T) {
	const n = 1 << 16
	long := strings.Repeat("a/", n)
	var steps []api.Clause
	for i := range n {
		steps = append(steps, clause("a", i-n/2, i-n/2))
	}
	lists := [][]api.Clause{
		slices.Repeat(cs("a:0-3", "a:5-9", ":7-8", "b:0-100"), n/4),
		slices.Repeat([]api.Clause{clause("a", -1, 3), clause("a", 9, 300), clause("a", 3, 1)}, n/3),
		slices.Repeat([]api.Clause{clause("b", 0, 3)}, n),
		{clause(long, 0, 3), clause(long[:n], 0, 5), clause(long[:n-1], 9, 9), clause("a", 7, 7)},
		steps,
	}
	for _, f := range lists {
		for _, p := range []string{"", "a", "b", long, long + "a", long[:n], long[:n-1], strings.Repeat("/", n)} {
			want := modelSizes(f, p)
			if l := filter.Sizes(f, p); !slices.Equal(l, want.ranges()) {
				t.Errorf("of %d clauses Sizes at %d bytes = %v, want %v", len(f), len(p), l, want.ranges())
			}
			for _, size := range []int{0, 3, 4, 8, 200, 201, -1} {
				for _, dead := range []bool{false, true} {
					x := api.File{Path: p, Size: size, Dead: dead}
					if is := filter.Match(f, x); is != modelMatch(f, x) {
						t.Errorf("of %d clauses Match of %d bytes, %d, %v = %v", len(f), len(p), size, dead, is)
					}
				}
			}
		}
	}
}

// R3: what is handed in stays as it is, its spare room too, and what is answered is new memory.
func TestNothingChangedOrShared(t *testing.T) {
	const room = 20
	first := slices.Concat(cs("b:9-12", "a/b:3-30", "a:0-10", "a:5-7", ":4-4", "a:11-11"), slices.Repeat(cs("z:7-7"), room))
	second := slices.Concat(cs("c:1-2", ":0-0", "a:3-5"), slices.Repeat(cs("y:8-8"), room))
	a, b := slices.Clone(first), slices.Clone(second)
	f, g := a[:len(a)-room], b[:len(b)-room]
	filter.Check(f)
	filter.Match(f, api.File{Path: "a/b", Size: 20})
	filter.Same(f, g)
	filter.Same(g, f)
	filter.Equal(f, g)
	for _, p := range []string{"", "a", "a/b", "b", "c"} {
		for _, h := range [][]api.Clause{f, g, f[:1], f[4:5]} {
			got := filter.Sizes(h, p)
			want := slices.Clone(got)
			for i := range got[:cap(got)] {
				got[:cap(got)][i] = api.Range{Lo: 100 + i, Hi: 300}
			}
			if l := filter.Sizes(h, p); !slices.Equal(l, want) {
				t.Errorf("Sizes(%v, %q) = %v, want %v", h, p, l, want)
			}
		}
	}
	for _, h := range [][]api.Clause{f, g, f[:1], filter.Norm(f)} {
		got := filter.Norm(h)
		want := slices.Clone(got)
		for i := range got[:cap(got)] {
			got[:cap(got)][i] = clause("x", 100+i, 300)
		}
		if l := filter.Norm(h); !slices.Equal(l, want) {
			t.Errorf("Norm(%v) = %v, want %v", h, l, want)
		}
	}
	if !slices.Equal(a, first) || !slices.Equal(b, second) {
		t.Errorf("what was handed in became %v and %v", a, b)
	}
	l, s := filter.Norm(f), filter.Sizes(f, "a/b")
	wantL, wantS := slices.Clone(l), slices.Clone(s)
	for i := range a {
		a[i] = clause("q", 50, 60)
	}
	if !slices.Equal(l, wantL) || !slices.Equal(s, wantS) {
		t.Error("what was handed in is kept")
	}
}
