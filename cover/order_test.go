package cover_test

import (
	"slices"
	"strconv"
	"strings"
	"testing"

	"lighterage/api"
	"lighterage/cover"
	"lighterage/filter"
)

// universe are files at, above, below and beside the prefixes of a few clauses, of all sizes that these tell apart, and dead ones.
func universe() []api.File {
	var l []api.File
	for _, p := range []string{"a", "a/b", "a/b/c", "a/c", "ab", "a-b", "b", "0", "0/a", "1", "2", "3", "00"} {
		for _, n := range []int{0, 1, 2, 3, 4, 5, 200} {
			l = append(l, api.File{Path: p, Size: n}, api.File{Path: p, Size: n, Dead: true})
		}
	}
	return l
}

// P10.3: a filter has all of another one if it matches all files that the other one matches, and only then.
func TestSoundAndComplete(t *testing.T) {
	filters, files := upToTwo(few()), universe()
	matched := make([][]bool, len(filters))
	for i, f := range filters {
		for _, x := range files {
			matched[i] = append(matched[i], filter.Match(f, x))
		}
	}
	for i, f := range filters {
		for j, g := range filters {
			want := true
			for k, is := range matched[j] {
				want = want && (!is || matched[i][k])
			}
			if is := cover.Subsumes(f, g); is != want {
				t.Errorf("Subsumes(%v, %v) = %v", f, g, is)
			}
		}
	}
}

// P10.3, P9.1: files of any path and size are matched by what has all of a filter that matches them.
func TestSoundOfAnyFile(t *testing.T) {
	filters := upToTwo(few())
	for i, f := range filters {
		g := filters[(31*i+17)%len(filters)]
		top := cover.Join(f, g)
		for _, p := range append(spots(f, g), "a//b", "a/", "/", "A/b", "\xff", "a/b/c/d/e/f/g/h") {
			for _, n := range []int{least, -1, 0, 1, 3, 200, 201, most} {
				for _, dead := range []bool{false, true} {
					x := api.File{Path: p, Size: n, Dead: dead}
					if filter.Match(f, x) && !filter.Match(top, x) || filter.Match(g, x) && !filter.Match(top, x) {
						t.Errorf("%v is matched by one of %v and %v, and not by %v", x, f, g, top)
					}
				}
			}
		}
	}
}

// P10.4: a filter has all of itself, and filters that have all of each other are alike.
func TestReflexiveAndAlike(t *testing.T) {
	filters := upToTwo(few())
	for _, f := range filters {
		for _, g := range [][]api.Clause{f, filter.Norm(f), slices.Concat(f, f)} {
			if !cover.Subsumes(f, g) || !cover.Subsumes(g, f) {
				t.Errorf("%v and %v do not have all of each other", f, g)
			}
		}
	}
	for _, f := range filters {
		for _, g := range filters {
			if both := cover.Subsumes(f, g) && cover.Subsumes(g, f); both != filter.Same(f, g) {
				t.Errorf("%v and %v have all of each other: %v", f, g, both)
			}
		}
	}
}

// P10.4: what has all of a filter has all of what that has all of.
func TestTransitive(t *testing.T) {
	filters := upToTwo(few())
	has := make([][]bool, len(filters))
	for i, f := range filters {
		for _, g := range filters {
			has[i] = append(has[i], cover.Subsumes(f, g))
		}
	}
	for i, f := range filters {
		for j, g := range filters {
			if !has[i][j] {
				continue
			}
			for k, h := range filters {
				if has[j][k] && !has[i][k] {
					t.Errorf("%v has all of %v, which has all of %v, which the first one has not", f, g, h)
				}
			}
		}
	}
}

// P10.4: both filters have all of what both have, and what one of them has has all of both; between these there is nothing else.
func TestMeetAndJoinStandBetween(t *testing.T) {
	filters := upToTwo(few())
	for i, f := range filters {
		for j, g := range filters {
			meet, join := cover.Meet(f, g), cover.Join(f, g)
			if !cover.Subsumes(f, meet) || !cover.Subsumes(g, meet) {
				t.Errorf("Meet(%v, %v) = %v, of which not both have all", f, g, meet)
			}
			if !cover.Subsumes(join, f) || !cover.Subsumes(join, g) {
				t.Errorf("Join(%v, %v) = %v, which has not all of both", f, g, join)
			}
			is := cover.Subsumes(f, g)
			if filter.Same(meet, g) != is || filter.Same(join, f) != is || (len(cover.Minus(g, f)) == 0) != is {
				t.Errorf("%v has all of %v: %v; Meet is %v, Join is %v", f, g, is, meet, join)
			}
			h := filters[(29*i+23*j)%len(filters)]
			if cover.Subsumes(f, h) && cover.Subsumes(g, h) && !cover.Subsumes(meet, h) {
				t.Errorf("%v and %v have all of %v, and Meet, %v, has not", f, g, h, meet)
			}
			if cover.Subsumes(h, f) && cover.Subsumes(h, g) && !cover.Subsumes(h, join) {
				t.Errorf("%v has all of %v and %v, and not of Join, %v", h, f, g, join)
			}
		}
	}
}

// manyClauses are filters of more clauses than one that is valid may have: of one size each, and deep ones.
func manyClauses() (each, deep []api.Clause) {
	for n := 200; n >= 0; n-- {
		each = append(each, clause("a", n, n), clause("a/b", n, min(n+1, 200)))
		if n%2 == 0 {
			each = append(each, clause("", n, n))
		}
	}
	for i := range 6 {
		for n := range 30 {
			deep = append(deep, clause(strings.Repeat("a/", i)+"a", 5*n+i, 5*n+i), clause(strings.Repeat("a/", i)+"a", 190-i, 200))
		}
	}
	return each, deep
}

// P10.1, P10.2: more clauses than a filter that is valid may have.
func TestManyClauses(t *testing.T) {
	each, deep := manyClauses()
	filters := [][]api.Clause{each, deep, slices.Repeat(deep, 20), slices.Concat(each[:50], deep), each[:100], deep[3:], filter.All()}
	for _, f := range filters {
		for _, g := range filters {
			holds(t, f, g)
			witnessIs(t, f, g)
		}
	}
}

// P10.1, P10.2: very many clauses, none of whose prefixes is above another one's.
func TestVeryManyClauses(t *testing.T) {
	var f, g []api.Clause
	for i := range 1 << 16 {
		p := "x" + strconv.Itoa(i*7919%(1<<16))
		f = append(f, clause(p, i%150, i%150+i%50))
		g = append(g, clause(p+"/a", i%150, i%150+i%50))
	}
	back := slices.Clone(f)
	slices.Reverse(back)
	n, below := filter.Norm(f), filter.Norm(g)
	if !cover.Subsumes(f, back) || !cover.Subsumes(f, g) || cover.Subsumes(g, f) || cover.Subsumes(f[1:], f) {
		t.Error("Subsumes of very many clauses")
	}
	if x, is := cover.Witness(f[1:], g); x != (api.File{Path: f[0].Prefix + "/a", Size: f[0].Lo}) || !is {
		t.Errorf("Witness of very many clauses = %v, %v", x, is)
	}
	if !slices.Equal(cover.Meet(f, back), n) || !slices.Equal(cover.Meet(f, g), below) || !slices.Equal(cover.Meet(g, filter.All()), below) {
		t.Error("Meet of very many clauses")
	}
	if !slices.Equal(cover.Join(back, g), n) || !slices.Equal(cover.Join(f[:1<<15], f[1<<15:]), n) {
		t.Error("Join of very many clauses")
	}
	if !slices.Equal(cover.Minus(f, g), n) || len(cover.Minus(g, f)) != 0 || !slices.Equal(cover.Minus(f, back[:len(back)-1]), f[:1]) {
		t.Error("Minus of very many clauses")
	}
}
