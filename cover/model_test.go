package cover_test

import (
	"fmt"
	"math"
	"slices"
	"strconv"
	"strings"
	"testing"

	"lighterage/api"
	"lighterage/cover"
)

const (
	least = math.MinInt
	most  = math.MaxInt
)

// model is of each size whether a set has it.
type model [201]bool

// both are the sizes that two sets have.
func (m model) both(o model) model {
	for n := range m {
		m[n] = m[n] && o[n]
	}
	return m
}

// either are the sizes that one of two sets has.
func (m model) either(o model) model {
	for n := range m {
		m[n] = m[n] || o[n]
	}
	return m
}

// without are the sizes of a set that another one does not have.
func (m model) without(o model) model {
	for n := range m {
		m[n] = m[n] && !o[n]
	}
	return m
}

// ranges are the longest ranges of a set's sizes, by rising sizes.
func (m model) ranges() []api.Range {
	var l []api.Range
	for n := 0; n < len(m); n++ {
		if !m[n] {
			continue
		}
		lo := n
		for n+1 < len(m) && m[n+1] {
			n++
		}
		l = append(l, api.Range{Lo: lo, Hi: n})
	}
	return l
}

// modelCovers is what the document says of a prefix and what it covers.
func modelCovers(prefix, s string) bool {
	return prefix == "" || prefix == s || len(s) > len(prefix) && s[:len(prefix)] == prefix && s[len(prefix)] == '/'
}

// modelSizes is of which sizes a filter has clauses at a path.
func modelSizes(f []api.Clause, p string) model {
	var m model
	for _, c := range f {
		if !modelCovers(c.Prefix, p) {
			continue
		}
		for n := max(c.Lo, 0); n <= min(c.Hi, 200); n++ {
			m[n] = true
		}
	}
	return m
}

// modelMatch is what the document says of a filter and a file.
func modelMatch(f []api.Clause, x api.File) bool {
	for _, c := range f {
		if modelCovers(c.Prefix, x.Path) && (x.Dead || c.Lo <= x.Size && x.Size <= c.Hi && x.Size >= 0 && x.Size <= 200) {
			return true
		}
	}
	return false
}

// modelForm is the normal form of the filter that has certain sizes at each path, and has others than
// those of the path above it only at some: it has a path's sizes there that the path above it does not have.
func modelForm(at func(p string) model, some []string) []api.Clause {
	some = slices.Clone(some)
	slices.Sort(some)
	var l []api.Clause
	for _, p := range slices.Compact(some) {
		m := at(p)
		if p != "" {
			above, _, _ := cutLast(p)
			m = m.without(at(above))
		}
		for _, r := range m.ranges() {
			l = append(l, api.Clause{Prefix: p, Range: r})
		}
	}
	return l
}

// cutLast is what stands ahead of a text's last /, and behind it.
func cutLast(p string) (ahead, behind string, is bool) {
	for i := len(p) - 1; i >= 0; i-- {
		if p[i] == '/' {
			return p[:i], p[i+1:], true
		}
	}
	return "", p, false
}

// prefixes are those of all clauses of filters.
func prefixes(l ...[]api.Clause) []string {
	var s []string
	for _, f := range l {
		for _, c := range f {
			s = append(s, c.Prefix)
		}
	}
	slices.Sort(s)
	return slices.Compact(s)
}

// spots are paths at which filters may have other sizes than at those above them, and some beside and below them.
func spots(l ...[]api.Clause) []string {
	s := []string{"", "x-y-z", "0", "1"}
	for _, p := range prefixes(l...) {
		above, _, _ := cutLast(p)
		s = append(s, p, above, p+"z", strings.TrimPrefix(p+"/z", "/"))
	}
	slices.Sort(s)
	return slices.Compact(s)
}

// modelSubsumes tells whether a filter has at every path what another one has: beside spots nothing is another way.
func modelSubsumes(f, g []api.Clause) bool {
	for _, p := range append(prefixes(f, g), "") {
		if modelSizes(g, p).without(modelSizes(f, p)) != (model{}) {
			return false
		}
	}
	return true
}

// modelWitness is the file that the document names.
func modelWitness(f, g []api.Clause) (api.File, bool) {
	form := modelForm(func(p string) model { return modelSizes(g, p) }, prefixes(g))
	for _, c := range form {
		has := modelSizes(f, c.Prefix)
		for n := c.Lo; n <= c.Hi; n++ {
			if has[n] {
				continue
			}
			p := c.Prefix
			for k := 0; p == ""; k++ {
				if name := strconv.Itoa(k); !slices.Contains(prefixes(f), name) {
					p = name
				}
			}
			return api.File{Path: p, Size: n}, true
		}
	}
	return api.File{}, false
}

// modelMeet is the normal form of what two filters both have.
func modelMeet(f, g []api.Clause) []api.Clause {
	return modelForm(func(p string) model { return modelSizes(f, p).both(modelSizes(g, p)) }, prefixes(f, g))
}

// modelJoin is the normal form of what one of two filters has.
func modelJoin(f, g []api.Clause) []api.Clause {
	return modelForm(func(p string) model { return modelSizes(f, p).either(modelSizes(g, p)) }, prefixes(f, g))
}

// modelMinus is the normal form of what clauses of f's normal form have that g does not have at their prefix.
func modelMinus(f, g []api.Clause) []api.Clause {
	var left []api.Clause
	for _, c := range modelForm(func(p string) model { return modelSizes(f, p) }, prefixes(f)) {
		m := modelSizes([]api.Clause{c}, c.Prefix).without(modelSizes(g, c.Prefix))
		left = append(left, all([]string{c.Prefix}, m.ranges()...)...)
	}
	return modelForm(func(p string) model { return modelSizes(left, p) }, prefixes(left))
}

// clause is a prefix and a range in one.
func clause(p string, lo, hi int) api.Clause {
	return api.Clause{Prefix: p, Range: api.Range{Lo: lo, Hi: hi}}
}

// cs are the clauses of texts such as a:0-9, or :0-5 of the empty prefix.
func cs(texts ...string) []api.Clause {
	var l []api.Clause
	for _, s := range texts {
		prefix, rest, _ := strings.Cut(s, ":")
		c := api.Clause{Prefix: prefix}
		if _, e := fmt.Sscanf(rest, "%d-%d", &c.Lo, &c.Hi); e != nil {
			panic(s)
		}
		l = append(l, c)
	}
	return l
}

// all are the clauses of all prefixes and all ranges of some.
func all(prefixes []string, ranges ...api.Range) []api.Clause {
	var l []api.Clause
	for _, p := range prefixes {
		for _, r := range ranges {
			l = append(l, api.Clause{Prefix: p, Range: r})
		}
	}
	return l
}

// below are prefixes that cover one another, that only begin alike, letters that stand ahead of / and behind it, and numbers.
func below() []string {
	return []string{"", "a", "a/b", "a/b/c", "a/bc", "a-b", "a.b/c", "a0", "ab", "b", "b/a", "0", "0/1", "1", "2", "10", "00", "a/0"}
}

// upToTwo are all filters of up to two of some clauses.
func upToTwo(l []api.Clause) [][]api.Clause {
	filters := [][]api.Clause{nil}
	for i, c := range l {
		filters = append(filters, []api.Clause{c})
		for _, d := range l[:i] {
			filters = append(filters, []api.Clause{c, d})
		}
	}
	return filters
}

// few are prefixes and ranges of which all filters of a few clauses can be made.
func few() []api.Clause {
	return all([]string{"", "a", "a/b", "0"}, api.Range{Lo: 0, Hi: 2}, api.Range{Lo: 1, Hi: 1}, api.Range{Lo: 2, Hi: 3}, api.Range{Lo: 4, Hi: 200})
}

// subsumesIs holds whether a filter has all of another one, and a file of which it does not, against the model.
func subsumesIs(t *testing.T, f, g []api.Clause) {
	t.Helper()
	want := modelSubsumes(f, g)
	x, has := modelWitness(f, g)
	if want == has {
		t.Fatalf("the model says of %v, %v both %v and %v", f, g, want, x)
	}
	// Twice, as it hangs on nothing that was asked ahead of it.
	for range 2 {
		if is := cover.Subsumes(f, g); is != want {
			t.Errorf("Subsumes(%v, %v) = %v", f, g, is)
		}
		if y, is := cover.Witness(f, g); y != x || is != has {
			t.Errorf("Witness(%v, %v) = %v, %v, want %v, %v", f, g, y, is, x, has)
		}
	}
}

// formsAre holds the filters of what both have, of what one of them has, and of what one has alone, against the model.
func formsAre(t *testing.T, f, g []api.Clause) {
	t.Helper()
	meet, join, minus := modelMeet(f, g), modelJoin(f, g), modelMinus(f, g)
	for range 2 {
		if l := cover.Meet(f, g); !slices.Equal(l, meet) {
			t.Errorf("Meet(%v, %v) = %v, want %v", f, g, l, meet)
		}
		if l := cover.Join(f, g); !slices.Equal(l, join) {
			t.Errorf("Join(%v, %v) = %v, want %v", f, g, l, join)
		}
		if l := cover.Minus(f, g); !slices.Equal(l, minus) {
			t.Errorf("Minus(%v, %v) = %v, want %v", f, g, l, minus)
		}
	}
}

// atPathsAre holds what filters that were answered have at paths against what they have to have there.
func atPathsAre(t *testing.T, f, g []api.Clause) {
	t.Helper()
	meet, join, minus := cover.Meet(f, g), cover.Join(f, g), cover.Minus(f, g)
	for _, p := range spots(f, g) {
		a, b := modelSizes(f, p), modelSizes(g, p)
		if m := modelSizes(meet, p); m != a.both(b) {
			t.Errorf("at %q Meet(%v, %v) has %v", p, f, g, m.ranges())
		}
		if m := modelSizes(join, p); m != a.either(b) {
			t.Errorf("at %q Join(%v, %v) has %v", p, f, g, m.ranges())
		}
		// With what is left, and what both have, there is all of f, and nothing beside it.
		m := modelSizes(minus, p)
		if m.either(a.both(b)) != a {
			t.Errorf("at %q Minus(%v, %v) has %v", p, f, g, m.ranges())
		}
	}
}

// holds holds all calls against the model.
func holds(t *testing.T, f, g []api.Clause) {
	t.Helper()
	subsumesIs(t, f, g)
	formsAre(t, f, g)
	atPathsAre(t, f, g)
}
