package filter_test

import (
	"slices"
	"strconv"
	"strings"
	"testing"

	"lighterage/api"
	"lighterage/filter"
)

// P9.3: the normal forms of filters.
func TestNorm(t *testing.T) {
	cases := []struct{ f, want []api.Clause }{
		{nil, nil},
		{cs("a:0-9", ":0-5"), cs(":0-5", "a:6-9")},
		{cs("a:0-10", "a:11-20", "a/b:5-30"), cs("a:0-20", "a/b:21-30")},
		{cs(":0-200"), cs(":0-200")},
		{cs("a:3-3"), cs("a:3-3")},
		// The same prefix: apart, beside one another, over one another, one within another one, twice.
		{cs("a:7-9", "a:0-5"), cs("a:0-5", "a:7-9")},
		{cs("a:6-9", "a:0-5"), cs("a:0-9")},
		{cs("a:4-9", "a:0-5"), cs("a:0-9")},
		{cs("a:4-5", "a:0-9"), cs("a:0-9")},
		{cs("a:0-9", "a:4-5"), cs("a:0-9")},
		{cs("a:4-5", "a:4-5"), cs("a:4-5")},
		{cs("a:0-0", "a:2-2", "a:1-1"), cs("a:0-2")},
		// Above it: all of it, nothing of it, one end, the midst.
		{cs("a:0-9", ":0-9"), cs(":0-9")},
		{cs("a:0-9", ":0-200"), cs(":0-200")},
		{cs("a:0-9", ":10-20"), cs(":10-20", "a:0-9")},
		{cs("a:0-9", ":3-5"), cs(":3-5", "a:0-2", "a:6-9")},
		{cs("a:0-9", ":5-12"), cs(":5-12", "a:0-4")},
		{cs("a:0-9", ":0-0", ":9-9", ":4-4"), cs(":0-0", ":4-4", ":9-9", "a:1-3", "a:5-8")},
		{cs("a/b:0-9", ":3-5"), cs(":3-5", "a/b:0-2", "a/b:6-9")},
		// What is above stands in several prefixes, of which the nearest one says less than those above it.
		{cs("a/b:0-9", "a:3-5", ":0-2"), cs(":0-2", "a:3-5", "a/b:6-9")},
		{cs("a/b/c:0-9", "a:3-5", ":0-2"), cs(":0-2", "a:3-5", "a/b/c:6-9")},
		{cs("a/b:0-5", "a:0-3", ":0-4"), cs(":0-4", "a/b:5-5")},
		{cs("a/b:0-5", "a:0-3", ":0-9"), cs(":0-9")},
		{cs("a/b:0-9", "a:0-9", ":0-9", "a/b/c:0-9"), cs(":0-9")},
		{cs("a/b/c/d/e/f:0-3", "a/b/c/d/e:2-4", "a/b/c:3-5"), cs("a/b/c:3-5", "a/b/c/d/e:2-2", "a/b/c/d/e/f:0-1")},
		// What only begins alike is not above, nor is what is below.
		{cs("ab:0-9", "a:0-9"), cs("a:0-9", "ab:0-9")},
		{cs("a:0-9", "a/b:0-20"), cs("a:0-9", "a/b:10-20")},
		{cs("b:0-9", "a:0-9"), cs("a:0-9", "b:0-9")},
		{cs("a/b:0-9", "a/c:0-9"), cs("a/b:0-9", "a/c:0-9")},
		// By bytes: - and . stand ahead of /, digits and letters behind it.
		{cs("a0:1-1", "a/b:1-1", "ab:1-1", "a.b:1-1", "a-b:1-1", "a_b:1-1", "a:2-2", "b:1-1", "a:0-0"),
			cs("a:0-0", "a:2-2", "a-b:1-1", "a.b:1-1", "a/b:1-1", "a0:1-1", "a_b:1-1", "ab:1-1", "b:1-1")},
		{cs("a/b:0-9", "a-b:0-9", "a:0-5"), cs("a:0-5", "a-b:0-9", "a/b:6-9")},
	}
	for _, c := range cases {
		if l := filter.Norm(c.f); !slices.Equal(l, c.want) {
			t.Errorf("Norm(%v) = %v, want %v", c.f, l, c.want)
		}
		normIs(t, c.f)
		if !filter.Same(c.f, c.want) {
			t.Errorf("Same(%v, %v) is false", c.f, c.want)
		}
		back := slices.Clone(c.f)
		slices.Reverse(back)
		if l := filter.Norm(back); !slices.Equal(l, c.want) {
			t.Errorf("Norm(%v) = %v, want %v", back, l, c.want)
		}
	}
}

// P9.3: which filters are alike.
func TestSame(t *testing.T) {
	cases := []struct {
		f, g []api.Clause
		want bool
	}{
		{nil, nil, true},
		{nil, []api.Clause{}, true},
		{nil, cs("a:0-0"), false},
		{cs("a:0-9"), cs("a:0-9"), true},
		{cs("a:0-9"), cs("b:0-9"), false},
		{cs("a:0-9"), cs("a:0-8"), false},
		{cs("a:0-9"), cs("a:1-9"), false},
		{cs("a:0-9"), cs("a/b:0-9"), false},
		{cs("a:0-9"), cs(":0-9"), false},
		{cs("a:0-9", "b:0-9"), cs("b:0-9", "a:0-9"), true},
		{cs("a:0-9", "a:0-9"), cs("a:0-9"), true},
		{cs("a:0-4", "a:5-9"), cs("a:0-9"), true},
		{cs("a:0-4", "a:6-9"), cs("a:0-9"), false},
		{cs(":0-9", "a:3-5"), cs(":0-9"), true},
		{cs(":0-9", "a:3-10"), cs(":0-9"), false},
		{cs(":0-9", "a:3-10"), cs(":0-9", "a:10-10"), true},
		{cs("a/b:0-9", "a:0-5"), cs("a:0-5", "a/b:6-9"), true},
		{cs("a/b:0-9", "a:0-5"), cs("a:0-5", "a/b:4-9"), true},
		{cs("a/b:0-9", "a:0-5"), cs("a:0-5", "a/b:7-9"), false},
		{cs("a:0-5", "b:6-9"), cs("a:6-9", "b:0-5"), false},
	}
	for _, c := range cases {
		if is := filter.Same(c.f, c.g); is != c.want {
			t.Errorf("Same(%v, %v) = %v", c.f, c.g, is)
		}
		sameIs(t, c.f, c.g)
	}
}

// P9.3: which lists are the very same, of any clauses.
func TestEqual(t *testing.T) {
	odd := []api.Clause{clause("A/", 9, 3), clause("", least, most), clause("A/", 9, 3)}
	cases := []struct {
		f, g []api.Clause
		want bool
	}{
		{nil, nil, true},
		{nil, []api.Clause{}, true},
		{nil, cs("a:0-9"), false},
		{cs("a:0-9"), cs("a:0-9"), true},
		{cs("a:0-9"), cs("a:0-9", "a:0-9"), false},
		{cs("a:0-9"), cs("a:0-8"), false},
		{cs("a:0-9"), cs("a:1-9"), false},
		{cs("a:0-9"), cs("b:0-9"), false},
		{cs("a:0-9"), cs("a/:0-9"), false},
		{cs("a:0-9", "b:0-9"), cs("a:0-9", "b:0-9"), true},
		{cs("a:0-9", "b:0-9"), cs("b:0-9", "a:0-9"), false},
		{cs("a:0-9", "b:0-9"), cs("a:0-9", "b:0-8"), false},
		// Alike is not the same list.
		{cs("a:0-4", "a:5-9"), cs("a:0-9"), false},
		{cs(":0-9", "a:3-5"), cs(":0-9"), false},
		{[]api.Clause{clause("a", 9, 3)}, []api.Clause{clause("a", 8, 3)}, false},
		{[]api.Clause{clause("a", 9, 3)}, nil, false},
		{odd, slices.Clone(odd), true},
		{odd, odd[:2], false},
	}
	for _, c := range cases {
		for range 2 {
			if is := filter.Equal(c.f, c.g); is != c.want {
				t.Errorf("Equal(%v, %v) = %v", c.f, c.g, is)
			}
			if is := filter.Equal(c.g, c.f); is != c.want {
				t.Errorf("Equal(%v, %v) = %v", c.g, c.f, is)
			}
		}
	}
	// More clauses than a filter may have, and one of them another one.
	long := slices.Repeat(odd, 1000)
	other := slices.Clone(long)
	if !filter.Equal(long, other) {
		t.Error("long lists are not the same")
	}
	for _, i := range []int{0, 1500, len(other) - 1} {
		other[i].Hi++
		if filter.Equal(long, other) {
			t.Errorf("lists of which %d is another one are the same", i)
		}
		other[i].Hi--
	}
}

// few are prefixes and ranges of which all filters of a few clauses can be made.
func few() []api.Clause {
	return all([]string{"", "a", "a/b", "a-b"}, api.Range{Lo: 0, Hi: 2}, api.Range{Lo: 1, Hi: 1}, api.Range{Lo: 2, Hi: 3}, api.Range{Lo: 4, Hi: 200})
}

// P9.3, P9.4: all filters of three clauses of a few: their normal forms, which are their own ones, and match what they match.
func TestThree(t *testing.T) {
	l := few()
	for _, c := range l {
		for _, d := range l {
			for _, e := range l {
				f := []api.Clause{c, d, e}
				n := filter.Norm(f)
				if want := modelNorm(f); !slices.Equal(n, want) {
					t.Fatalf("Norm(%v) = %v, want %v", f, n, want)
				}
				if !slices.Equal(filter.Norm(n), n) || !filter.Same(f, n) || !filter.Same(n, f) {
					t.Fatalf("%v and its normal form %v are not alike", f, n)
				}
				for _, p := range []string{"", "a", "a/b", "a/b/c", "a-b", "a/c", "ab"} {
					for size := range 6 {
						x := api.File{Path: p, Size: size, Dead: size == 5}
						if filter.Match(f, x) != filter.Match(n, x) {
							t.Fatalf("%v and its normal form %v do not both match %v", f, n, x)
						}
					}
				}
			}
		}
	}
}

// P9.3, P9.4: all pairs of filters of up to two clauses: alike if their normal forms are the very same, and only then.
func TestPairs(t *testing.T) {
	l := few()
	filters := [][]api.Clause{nil}
	for i, c := range l {
		filters = append(filters, []api.Clause{c})
		for _, d := range l[:i] {
			filters = append(filters, []api.Clause{c, d})
		}
	}
	for i, f := range filters {
		for _, g := range filters[:i+1] {
			want := modelSame(f, g)
			if filter.Same(f, g) != want || filter.Same(g, f) != want {
				t.Errorf("Same(%v, %v) = %v", f, g, !want)
			}
			if filter.Equal(filter.Norm(f), filter.Norm(g)) != want {
				t.Errorf("the normal forms of %v and %v are %v and %v", f, g, filter.Norm(f), filter.Norm(g))
			}
		}
	}
}

// P9.4: a filter that is a normal form by the document's words is its own one.
func TestNormalForms(t *testing.T) {
	forms := 0
	for b := range 1 << 12 {
		// Sets of the sizes 0, 1 and 2 at four prefixes, each without what is above it.
		own := func(i int) int { return b >> (3 * i) & 7 }
		top, a, ab, beside := own(0), own(1), own(2), own(3)
		if top&a != 0 || (top|a)&ab != 0 || top&beside != 0 {
			continue
		}
		forms++
		var f []api.Clause
		for i, p := range []string{"", "a", "a-b", "a/b"} {
			f = append(f, spelt(p, []int{top, a, beside, ab}[i])...)
		}
		if n := filter.Norm(f); !slices.Equal(n, f) {
			t.Errorf("Norm(%v) = %v", f, n)
		}
	}
	// Of each size: at "", or at a-b or not, and at a, at a/b, or at neither.
	if forms != 7*7*7 {
		t.Errorf("%d normal forms", forms)
	}
}

// spelt are the clauses of a prefix that has the sizes whose bits are set.
func spelt(p string, bits int) []api.Clause {
	var m model
	for n := range 3 {
		m[n] = bits>>n&1 == 1
	}
	return all([]string{p}, m.ranges()...)
}

// P9.3: more clauses than a filter that is valid may have.
func TestManyClauses(t *testing.T) {
	var each, wide, deep []api.Clause
	for n := 200; n >= 0; n-- {
		each = append(each, clause("a", n, n), clause("a/b", n, min(n+1, 200)))
		if n%2 == 0 {
			each = append(each, clause("", n, n))
		}
	}
	for i := range 1 << 16 {
		wide = append(wide, clause("x"+strconv.Itoa(i*7919%(1<<16)), i%150, i%150+i%50))
	}
	for i := range 6 {
		for n := range 30 {
			deep = append(deep, clause(strings.Repeat("a/", i)+"a", 5*n+i, 5*n+i), clause(strings.Repeat("a/", i)+"a", 190-i, 200))
		}
	}
	for _, f := range [][]api.Clause{each, deep, slices.Repeat(deep, 20), slices.Concat(each, deep, wide[:300])} {
		normIs(t, f)
		sameIs(t, f, filter.Norm(f))
		sameIs(t, f, f[1:])
		sameIs(t, each, f)
	}
	n := filter.Norm(wide)
	slices.SortFunc(wide, func(c, d api.Clause) int { return strings.Compare(c.Prefix, d.Prefix) })
	if !slices.Equal(n, wide) || !filter.Same(n, wide) || filter.Same(wide, wide[1:]) {
		t.Error("clauses of many prefixes, none above another one, are not their own normal form")
	}
}

// R1, R2: what no promise is made of ends, and answers the same again.
func TestNormOfAny(t *testing.T) {
	l := anyClauses()
	long := strings.Repeat("a/", 1<<15)
	l = append(l, clause(long, 0, 5), clause(long+"b", -3, 500), clause(strings.Repeat("/", 1<<15), 0, 5))
	for i := range l {
		f := []api.Clause{l[i], l[(5*i+2)%len(l)], l[(i+17)%len(l)], l[i]}
		if !slices.Equal(filter.Norm(f), filter.Norm(f)) || !filter.Same(f, f) {
			t.Errorf("Norm of clause %d and others is not the same again", i)
		}
	}
	if !filter.Same(l, l) {
		t.Error("Same of all of them is false")
	}
}

// filterOf reads clauses out of bytes, all of them valid, or now and then one that is not.
func filterOf(s []byte, valid bool) []api.Clause {
	prefixes := below()
	number := func(b byte) int {
		if valid {
			return min(int(b), 200)
		}
		if b > 250 {
			return []int{least, least + 1, most - 1, most, 1 << 40}[b-251]
		}
		return int(b) - 20
	}
	var l []api.Clause
	// More of them say little that is new, and take long to be held against the model.
	for ; len(s) >= 3 && len(l) < 20; s = s[3:] {
		c := clause(prefixes[int(s[0])%len(prefixes)], number(s[1]), number(s[2]))
		if valid && c.Lo > c.Hi {
			c.Lo, c.Hi = c.Hi, c.Lo
		}
		if !valid && s[0] > 200 {
			c.Prefix = string(s[:s[0]%3+1])
		}
		l = append(l, c)
	}
	return l
}

// P9.1 to P9.4, R1: whatever the clauses are.
func FuzzFilters(f *testing.F) {
	f.Add([]byte{}, []byte{0, 0, 200}, "a")
	f.Add([]byte{1, 0, 9, 0, 0, 5}, []byte{0, 0, 5, 1, 6, 9}, "a/b")
	f.Add([]byte{1, 0, 10, 1, 11, 20, 2, 5, 30}, []byte{210, 255, 251, 7, 40, 30}, "a/b/c")
	f.Fuzz(func(t *testing.T, x, y []byte, p string) {
		for _, valid := range []bool{true, false} {
			a, b := filterOf(x, valid), filterOf(y, valid)
			for _, q := range append(spots(a, b), p) {
				sizesAre(t, a, q)
				matchIs(t, a, q)
			}
			if is := filter.Equal(a, b); is != slices.Equal(a, b) {
				t.Errorf("Equal(%v, %v) = %v", a, b, is)
			}
			if e := filter.Check(a); valid && len(a) <= 8 && e != api.OK || len(a) > 8 && e != api.ErrBig {
				t.Errorf("Check(%v) = %d", a, int(e))
			}
			n := filter.Norm(a)
			is := filter.Same(a, b)
			if !valid {
				continue
			}
			normIs(t, a)
			normIs(t, n)
			if is != modelSame(a, b) || !filter.Same(n, a) {
				t.Errorf("Same(%v, %v) = %v; Same(%v, %v) has to be true", a, b, is, n, a)
			}
		}
	})
}
