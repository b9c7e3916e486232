package filter_test

import (
	"fmt"
	"math"
	"slices"
	"strings"
	"testing"

	"lighterage/api"
	"lighterage/filter"
)

const (
	least = math.MinInt
	most  = math.MaxInt
)

// model is of each size whether a set has it.
type model [201]bool

// modelCovers is what the document says of a prefix and what it covers.
func modelCovers(prefix, s string) bool {
	return prefix == "" || prefix == s || len(s) > len(prefix) && s[:len(prefix)] == prefix && s[len(prefix)] == '/'
}

// modelSizes is of which sizes a filter has clauses at a path.
func modelSizes(f []api.Clause, p string) model {
	var m model
	for _, c := range f {
		if !modelCovers(c.Prefix, p) {
			continue
		}
		for n := range m {
			m[n] = m[n] || c.Lo <= n && n <= c.Hi
		}
	}
	return m
}

// modelMatch is what the document says of a filter and a file.
func modelMatch(f []api.Clause, x api.File) bool {
	for _, c := range f {
		if !modelCovers(c.Prefix, x.Path) {
			continue
		}
		// A range has no other sizes than those that there are.
		if x.Dead || x.Size >= 0 && x.Size <= 200 && c.Lo <= x.Size && x.Size <= c.Hi {
			return true
		}
	}
	return false
}

// modelNorm is the normal form as the document says it.
func modelNorm(f []api.Clause) []api.Clause {
	of := map[string]bool{}
	for _, c := range f {
		of[c.Prefix] = true
	}
	var l []api.Clause
	for p := range of {
		m := modelSizes(f, p)
		if near, is := modelAbove(of, p); is {
			for n, has := range modelSizes(f, near) {
				m[n] = m[n] && !has
			}
		}
		for _, r := range m.ranges() {
			l = append(l, api.Clause{Prefix: p, Range: r})
		}
	}
	slices.SortFunc(l, func(c, d api.Clause) int {
		if c.Prefix != d.Prefix {
			return slices.Compare([]byte(c.Prefix), []byte(d.Prefix))
		}
		return c.Lo - d.Lo
	})
	return l
}

// modelAbove is the nearest prefix above one that a clause has, if there is one.
func modelAbove(of map[string]bool, p string) (string, bool) {
	for p != "" {
		l := strings.Split(p, "/")
		p = strings.Join(l[:len(l)-1], "/")
		if of[p] {
			return p, true
		}
	}
	return "", false
}

// modelSame tells whether two filters have the same sizes everywhere: at their own prefixes, at "", and elsewhere.
func modelSame(f, g []api.Clause) bool {
	for _, p := range spots(f, g) {
		if modelSizes(f, p) != modelSizes(g, p) {
			return false
		}
	}
	return true
}

// spots are texts at which filters may have other sizes than at those above them: all others have what one of these has.
func spots(l ...[]api.Clause) []string {
	s := []string{"", "x-y-z"}
	for _, f := range l {
		for _, c := range f {
			s = append(s, c.Prefix)
		}
	}
	slices.Sort(s)
	return slices.Compact(s)
}

// ranges are the longest ranges of a set's sizes, by rising sizes.
func (m model) ranges() []api.Range {
	var l []api.Range
	for n := 0; n < len(m); n++ {
		if !m[n] {
			continue
		}
		lo := n
		for n+1 < len(m) && m[n+1] {
			n++
		}
		l = append(l, api.Range{Lo: lo, Hi: n})
	}
	return l
}

// clause is a prefix and a range in one.
func clause(p string, lo, hi int) api.Clause {
	return api.Clause{Prefix: p, Range: api.Range{Lo: lo, Hi: hi}}
}

// cs are the clauses of texts such as a:0-9, or :0-5 of the empty prefix.
func cs(texts ...string) []api.Clause {
	var l []api.Clause
	for _, s := range texts {
		prefix, rest, _ := strings.Cut(s, ":")
		c := api.Clause{Prefix: prefix}
		if _, e := fmt.Sscanf(rest, "%d-%d", &c.Lo, &c.Hi); e != nil {
			panic(s)
		}
		l = append(l, c)
	}
	return l
}

// all are the clauses of all prefixes and all ranges of some.
func all(prefixes []string, ranges ...api.Range) []api.Clause {
	var l []api.Clause
	for _, p := range prefixes {
		for _, r := range ranges {
			l = append(l, api.Clause{Prefix: p, Range: r})
		}
	}
	return l
}

// below are prefixes that cover one another, that only begin alike, and letters that stand ahead of / and behind it.
func below() []string {
	return []string{"", "a", "a/b", "a/b/c", "a/bc", "a-b", "a.b/c", "a0", "ab", "b", "b/a"}
}

// files are files about a text, of sizes about the edges of a filter's ranges.
func files(f []api.Clause, p string) []api.File {
	var l []api.File
	for _, n := range numbers(f) {
		for _, dead := range []bool{false, true} {
			l = append(l, api.File{Path: p, Size: n, Dead: dead})
		}
	}
	return l
}

// numbers are those about the ends of a filter's ranges, of the sizes, and of what a number can be.
func numbers(f []api.Clause) []int {
	l := []int{least, -1, 0, 1, 100, 199, 200, 201, most}
	for _, c := range f {
		for _, n := range []int{c.Lo, c.Hi} {
			if n > least && n < most {
				l = append(l, n-1, n, n+1)
			}
		}
	}
	slices.Sort(l)
	return slices.Compact(l)
}

// sizesAre holds the sizes at a path against the model.
func sizesAre(t *testing.T, f []api.Clause, p string) {
	t.Helper()
	// Twice, as it hangs on nothing that was asked ahead of it.
	for range 2 {
		if l, want := filter.Sizes(f, p), modelSizes(f, p).ranges(); !slices.Equal(l, want) {
			t.Errorf("Sizes(%v, %q) = %v, want %v", f, p, l, want)
		}
	}
}

// matchIs holds whether files of a path are matched against the model.
func matchIs(t *testing.T, f []api.Clause, p string) {
	t.Helper()
	for _, x := range files(f, p) {
		for range 2 {
			if is := filter.Match(f, x); is != modelMatch(f, x) {
				t.Errorf("Match(%v, %v) = %v", f, x, is)
			}
		}
	}
}

// normIs holds the normal form of a filter against the model.
func normIs(t *testing.T, f []api.Clause) {
	t.Helper()
	want := modelNorm(f)
	for range 2 {
		if l := filter.Norm(f); !slices.Equal(l, want) {
			t.Errorf("Norm(%v) = %v, want %v", f, l, want)
		}
	}
}

// sameIs holds whether two filters are alike against the model.
func sameIs(t *testing.T, f, g []api.Clause) {
	t.Helper()
	want := modelSame(f, g)
	for range 2 {
		if is := filter.Same(f, g); is != want {
			t.Errorf("Same(%v, %v) = %v", f, g, is)
		}
		if is := filter.Same(g, f); is != want {
			t.Errorf("Same(%v, %v) = %v", g, f, is)
		}
	}
}
