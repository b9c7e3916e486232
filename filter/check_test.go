package filter_test

import (
	"slices"
	"strings"
	"testing"

	"lighterage/api"
	"lighterage/filter"
)

// P9.1: which filters may be, and the first fault of those that may not.
func TestCheck(t *testing.T) {
	deep := "abcdefghijkl/a/b/c/d/e"
	long := strings.Repeat("abcdefghi/", 3) + "abcdefghij"
	cases := []struct {
		f    []api.Clause
		want api.Errno
	}{
		{nil, api.OK},
		{[]api.Clause{}, api.OK},
		{cs(":0-200"), api.OK},
		{cs(":0-0"), api.OK},
		{cs(":200-200"), api.OK},
		{cs("a:3-3", "a/b:0-200", "a:3-3"), api.OK},
		{[]api.Clause{clause(deep, 0, 1)}, api.OK},
		{[]api.Clause{clause(long, 0, 1)}, api.OK},
		// Prefixes that are none.
		{[]api.Clause{clause("A", 0, 1)}, api.ErrPath},
		{[]api.Clause{clause("/", 0, 1)}, api.ErrPath},
		{[]api.Clause{clause("a/", 0, 1)}, api.ErrPath},
		{[]api.Clause{clause("/a", 0, 1)}, api.ErrPath},
		{[]api.Clause{clause("a//b", 0, 1)}, api.ErrPath},
		{[]api.Clause{clause(".", 0, 1)}, api.ErrPath},
		{[]api.Clause{clause("a/..", 0, 1)}, api.ErrPath},
		{[]api.Clause{clause(" ", 0, 1)}, api.ErrPath},
		{[]api.Clause{clause("\xff", 0, 1)}, api.ErrPath},
		{[]api.Clause{clause("\x00", 0, 1)}, api.ErrPath},
		{[]api.Clause{clause(deep+"/f", 0, 1)}, api.ErrPath},
		{[]api.Clause{clause("x"+deep, 0, 1)}, api.ErrPath},
		{[]api.Clause{clause(long+"/a", 0, 1)}, api.ErrPath},
		// Ranges that may not be.
		{[]api.Clause{clause("", -1, 0)}, api.ErrArg},
		{[]api.Clause{clause("", 0, 201)}, api.ErrArg},
		{[]api.Clause{clause("", 1, 0)}, api.ErrArg},
		{[]api.Clause{clause("a", 0, -1)}, api.ErrArg},
		{[]api.Clause{clause("a", 200, 199)}, api.ErrArg},
		{[]api.Clause{clause("a", 201, 201)}, api.ErrArg},
		{[]api.Clause{clause("a", 201, 200)}, api.ErrArg},
		{[]api.Clause{clause("a", -1, -1)}, api.ErrArg},
		{[]api.Clause{clause("a", least, 5)}, api.ErrArg},
		{[]api.Clause{clause("a", 5, most)}, api.ErrArg},
		{[]api.Clause{clause("a", least, most)}, api.ErrArg},
		{[]api.Clause{clause("a", most, least)}, api.ErrArg},
		// The prefix ahead of the range, and the first clause ahead of the next one.
		{[]api.Clause{clause("A", 2, 1)}, api.ErrPath},
		{[]api.Clause{clause("a", 0, 1), clause("A", 0, 1)}, api.ErrPath},
		{[]api.Clause{clause("a", 0, 1), clause("a", 2, 1)}, api.ErrArg},
		{[]api.Clause{clause("a", 2, 1), clause("A", 0, 1)}, api.ErrArg},
		{[]api.Clause{clause("A", 0, 1), clause("a", 2, 1)}, api.ErrPath},
		{[]api.Clause{clause("a", 0, 1), clause("b", 2, 1), clause("A", 2, 1)}, api.ErrArg},
	}
	for _, c := range cases {
		for range 2 {
			if e := filter.Check(c.f); e != c.want {
				t.Errorf("Check(%v) = %d, want %d", c.f, int(e), int(c.want))
			}
		}
	}
}

// P9.1, R2: how many clauses there may be, and that more are told ahead of what is in them.
func TestCheckMany(t *testing.T) {
	good, bad, none := clause("a/b", 3, 200), clause("a", 2, 1), clause("A", 0, 1)
	for n := range 20 {
		want := api.OK
		if n > 8 {
			want = api.ErrBig
		}
		f := slices.Repeat([]api.Clause{good}, n)
		if e := filter.Check(f); e != want {
			t.Errorf("Check of %d clauses = %d, want %d", n, int(e), int(want))
		}
		for i := range f {
			for _, c := range []api.Clause{bad, none} {
				g := slices.Clone(f)
				g[i] = c
				w := api.ErrArg
				if c == none {
					w = api.ErrPath
				}
				if n > 8 {
					w = api.ErrBig
				}
				if e := filter.Check(g); e != w {
					t.Errorf("Check of %d clauses, of which %d is %v = %d, want %d", n, i, c, int(e), int(w))
				}
			}
		}
	}
	if e := filter.Check(slices.Repeat([]api.Clause{none}, 1<<16)); e != api.ErrBig {
		t.Errorf("Check of very many = %d", int(e))
	}
}

// P9.1: all prefixes of a few letters, and all ranges about the edges.
func TestCheckAll(t *testing.T) {
	ends := []int{least, -1, 0, 1, 2, 100, 199, 200, 201, 202, most}
	for _, p := range below() {
		for _, lo := range ends {
			for _, hi := range ends {
				want := api.ErrArg
				if 0 <= lo && lo <= hi && hi <= 200 {
					want = api.OK
				}
				if e := filter.Check([]api.Clause{clause(p, lo, hi)}); e != want {
					t.Errorf("Check of %q %d to %d = %d, want %d", p, lo, hi, int(e), int(want))
				}
			}
		}
	}
}

// P9.1, P9.2: the filter of all files matches them all.
func TestAll(t *testing.T) {
	f := filter.All()
	if !slices.Equal(f, cs(":0-200")) {
		t.Fatalf("All() = %v", f)
	}
	if e := filter.Check(f); e != api.OK {
		t.Errorf("Check(All()) = %d", int(e))
	}
	for _, p := range below() {
		for n := range 201 {
			if !filter.Match(f, api.File{Path: p, Size: n}) || !filter.Match(f, api.File{Path: p, Size: n, Dead: true}) {
				t.Errorf("All() does not match %q of %d", p, n)
			}
		}
		if l := filter.Sizes(f, p); !slices.Equal(l, []api.Range{{Lo: 0, Hi: 200}}) {
			t.Errorf("Sizes(All(), %q) = %v", p, l)
		}
	}
	if l := filter.Norm(f); !slices.Equal(l, f) {
		t.Errorf("Norm(All()) = %v", l)
	}
}

// R3: each filter of all files is one of its own.
func TestAllIsNew(t *testing.T) {
	f, g := filter.All(), filter.All()
	f[0] = clause("a", 1, 2)
	_ = append(f[:0], clause("b", 1, 2))
	if want := cs(":0-200"); !slices.Equal(g, want) || !slices.Equal(filter.All(), want) {
		t.Errorf("All() became %v, %v", g, filter.All())
	}
}
