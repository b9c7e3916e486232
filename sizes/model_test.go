package sizes_test

import (
	"math"
	"slices"
	"testing"

	"lighterage/api"
	"lighterage/sizes"
)

// model is of each size whether a set has it.
type model [201]bool

// modelOf is the set of ranges as the document says it.
func modelOf(l []api.Range) model {
	var m model
	for n := range m {
		m[n] = slices.ContainsFunc(l, func(r api.Range) bool { return n >= r.Lo && n <= r.Hi })
	}
	return m
}

// both is the set of the sizes of which is tells so, by whether either set has them.
func both(a, b model, is func(a, b bool) bool) model {
	var m model
	for n := range m {
		m[n] = is(a[n], b[n])
	}
	return m
}

// ranges are the longest ranges of a set's sizes, by rising sizes.
func (m model) ranges() []api.Range {
	var l []api.Range
	for n := 0; n < len(m); n++ {
		if !m[n] {
			continue
		}
		lo := n
		for n+1 < len(m) && m[n+1] {
			n++
		}
		l = append(l, api.Range{Lo: lo, Hi: n})
	}
	return l
}

// many is how many sizes a set has.
func (m model) many() int {
	n := 0
	for _, is := range m {
		if is {
			n++
		}
	}
	return n
}

// isNormal tells whether ranges are a normal form, by the words of the document.
func isNormal(l []api.Range) bool {
	for i, r := range l {
		if r.Lo > r.Hi || r.Lo < 0 || r.Hi > 200 {
			return false
		}
		if i > 0 && r.Lo-l[i-1].Hi < 2 {
			return false
		}
	}
	return true
}

// rs are the ranges of pairs of numbers.
func rs(n ...int) []api.Range {
	var l []api.Range
	for i := 0; i < len(n); i += 2 {
		l = append(l, api.Range{Lo: n[i], Hi: n[i+1]})
	}
	return l
}

// edges are numbers about the ends of the sizes, and of what a number can be.
func edges() []int {
	return []int{math.MinInt, math.MinInt + 1, -201, -2, -1, 0, 1, 2, 100, 199, 200, 201, 202, 401, math.MaxInt - 1, math.MaxInt}
}

// listIs holds what is told of one list against the model.
func listIs(t *testing.T, l []api.Range) {
	t.Helper()
	m := modelOf(l)
	// Twice, as it hangs on nothing that was asked ahead of it.
	for range 2 {
		if s := sizes.Norm(l...); !slices.Equal(s, m.ranges()) || !isNormal(s) {
			t.Errorf("Norm(%v) = %v, want %v", l, s, m.ranges())
		}
		if n := sizes.Many(l); n != m.many() {
			t.Errorf("Many(%v) = %d, want %d", l, n, m.many())
		}
	}
}

// holdsIs holds what is told of the sizes in a list against the model.
func holdsIs(t *testing.T, l []api.Range) {
	t.Helper()
	m := modelOf(l)
	for n := -3; n < 210; n++ {
		if is := sizes.Holds(l, n); is != (n >= 0 && n <= 200 && m[n]) {
			t.Errorf("Holds(%v, %d) = %v", l, n, is)
		}
	}
	for _, n := range edges() {
		if is := sizes.Holds(l, n); is != (n >= 0 && n <= 200 && m[n]) {
			t.Errorf("Holds(%v, %d) = %v", l, n, is)
		}
	}
}

// pairIs holds what is told of two lists against the model.
func pairIs(t *testing.T, a, b []api.Range) {
	t.Helper()
	m, o := modelOf(a), modelOf(b)
	for range 2 {
		setIs(t, "Join", a, b, sizes.Join(a, b), both(m, o, func(x, y bool) bool { return x || y }))
		setIs(t, "Meet", a, b, sizes.Meet(a, b), both(m, o, func(x, y bool) bool { return x && y }))
		setIs(t, "Minus", a, b, sizes.Minus(a, b), both(m, o, func(x, y bool) bool { return x && !y }))
		more := both(m, o, func(x, y bool) bool { return !x && y })
		if is := sizes.Covers(a, b); is != (more.many() == 0) {
			t.Errorf("Covers(%v, %v) = %v", a, b, is)
		}
		if is := sizes.Same(a, b); is != (m == o) {
			t.Errorf("Same(%v, %v) = %v", a, b, is)
		}
	}
}

// setIs tells whether what a call answered is the normal form of a set.
func setIs(t *testing.T, call string, a, b, got []api.Range, want model) {
	t.Helper()
	if !slices.Equal(got, want.ranges()) || !isNormal(got) {
		t.Errorf("%s(%v, %v) = %v, want %v", call, a, b, got, want.ranges())
	}
}

// window is the set that has of the sizes from a place on those whose bits are set.
func window(from, bits int) model {
	var m model
	for n := range m {
		m[n] = n >= from && n-from < 60 && bits>>(n-from)&1 == 1
	}
	return m
}

// spelt are lists that all have a set's sizes, each in another way.
func spelt(m model) [][]api.Range {
	var one []api.Range
	for n, is := range m {
		if is {
			one = append(one, api.Range{Lo: n, Hi: n})
		}
	}
	normal := m.ranges()
	back := slices.Clone(one)
	slices.Reverse(back)
	// Each with an empty range behind it, and each range again, with the one ahead of it.
	var mixed, wide []api.Range
	for _, r := range normal {
		mixed = append(mixed, r, api.Range{Lo: r.Hi, Hi: r.Lo - 1}, api.Range{Lo: r.Lo, Hi: r.Lo})
		wide = append([]api.Range{r, {Lo: r.Hi, Hi: r.Hi}}, wide...)
	}
	for i, r := range wide {
		// What lies outside of all sizes says nothing.
		if r.Lo == 0 {
			wide[i].Lo = math.MinInt
		}
		if r.Hi == 200 {
			wide[i].Hi = math.MaxInt
		}
	}
	return [][]api.Range{normal, one, back, mixed, wide}
}
