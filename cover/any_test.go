package cover_test

import (
	"slices"
	"strings"
	"testing"

	"lighterage/api"
	"lighterage/cover"
	"lighterage/filter"
)

// calls are all calls that answer a filter.
func calls() []func(f, g []api.Clause) []api.Clause {
	return []func(f, g []api.Clause) []api.Clause{cover.Meet, cover.Join, cover.Minus}
}

// sameAgain holds that calls of any clauses end, and answer the same again.
func sameAgain(t *testing.T, f, g []api.Clause) {
	t.Helper()
	for _, call := range calls() {
		if !slices.Equal(call(f, g), call(f, g)) {
			t.Errorf("of %v and %v comes not the same again", f, g)
		}
	}
	x, is := cover.Witness(f, g)
	if y, too := cover.Witness(f, g); x != y || is != too {
		t.Errorf("Witness(%v, %v) = %v, %v, and then %v, %v", f, g, x, is, y, too)
	}
	if cover.Subsumes(f, g) != cover.Subsumes(f, g) {
		t.Errorf("Subsumes(%v, %v) is not the same again", f, g)
	}
}

// R1: clauses that may not be, about which nothing else is promised.
func TestAnyClauses(t *testing.T) {
	l := all(append(below(), "/", "//", "a/", "A", "\xff/a", "\x00"),
		api.Range{Lo: 0, Hi: 200}, api.Range{Lo: 3, Hi: 5}, api.Range{Lo: 7, Hi: 3}, api.Range{Lo: -9, Hi: 4},
		api.Range{Lo: 200, Hi: most}, api.Range{Lo: least, Hi: most}, api.Range{Lo: most, Hi: least}, api.Range{Lo: least, Hi: least})
	long := strings.Repeat("a/", 1<<13)
	l = append(l, clause(long, 0, 5), clause(long+"b", -3, 500), clause(strings.Repeat("/", 1<<13), 0, 5))
	for i := range l {
		f := []api.Clause{l[i], l[(5*i+2)%len(l)], l[(i+17)%len(l)]}
		g := []api.Clause{l[(3*i+1)%len(l)], l[(i+29)%len(l)]}
		sameAgain(t, f, g)
		sameAgain(t, g, f)
		sameAgain(t, f, nil)
		sameAgain(t, nil, f)
	}
	sameAgain(t, l, l)
	sameAgain(t, l, filter.All())
	sameAgain(t, filter.All(), l)
}

// R3: what is handed in stays as it is, its spare room too.
func TestNothingChanged(t *testing.T) {
	const room = 20
	first := slices.Concat(cs("b:9-12", "a/b:3-30", "a:0-10", "a:5-7", ":4-4", "a:11-11", "0:0-3"), slices.Repeat(cs("z:7-7"), room))
	second := slices.Concat(cs("c:1-2", ":0-0", "a:3-5", "0:1-1"), slices.Repeat(cs("y:8-8"), room))
	a, b := slices.Clone(first), slices.Clone(second)
	f, g := a[:len(a)-room], b[:len(b)-room]
	for _, call := range calls() {
		call(f, g)
		call(g, f)
		call(f, f)
		call(f, nil)
		call(nil, f)
	}
	for _, l := range [][2][]api.Clause{{f, g}, {g, f}, {f, f}, {nil, f}, {f, nil}, {f, filter.All()}} {
		cover.Subsumes(l[0], l[1])
		cover.Witness(l[0], l[1])
	}
	if !slices.Equal(a, first) || !slices.Equal(b, second) {
		t.Errorf("what was handed in became %v and %v", a, b)
	}
}

// R3: what is answered is new memory, and what is handed in is not kept.
func TestNothingShared(t *testing.T) {
	first, second := cs("a:0-10", "b:9-12", "0:0-3"), cs(":0-0", "a:3-5", "c:1-2")
	for i, call := range calls() {
		for _, lists := range [][2][]api.Clause{{first, second}, {second, first}, {first, nil}, {nil, first}, {first, first}} {
			f, g := slices.Clone(lists[0]), slices.Clone(lists[1])
			want := slices.Clone(call(f, g))
			l := call(f, g)
			for k := range f {
				f[k] = clause("q", 50, 60)
			}
			for k := range g {
				g[k] = clause("q", 50, 60)
			}
			if !slices.Equal(l, want) {
				t.Errorf("call %d of %v and %v keeps what was handed in: %v", i, lists[0], lists[1], l)
			}
			all := l[:cap(l)]
			for k := range all {
				all[k] = clause("x", 100, 300)
			}
			f, g = slices.Clone(lists[0]), slices.Clone(lists[1])
			if l := call(f, g); !slices.Equal(l, want) {
				t.Errorf("call %d of %v and %v answers what was answered: %v", i, lists[0], lists[1], l)
			}
		}
	}
}

// filterOf reads clauses out of bytes, all of them valid, or now and then one that is not.
func filterOf(s []byte, valid bool) []api.Clause {
	prefixes := below()
	number := func(b byte) int {
		if valid {
			return min(int(b), 200)
		}
		if b > 250 {
			return []int{least, least + 1, most - 1, most, 1 << 40}[b-251]
		}
		return int(b) - 20
	}
	var l []api.Clause
	// More of them say little that is new, and take long to be held against the model.
	for ; len(s) >= 3 && len(l) < 20; s = s[3:] {
		c := clause(prefixes[int(s[0])%len(prefixes)], number(s[1]), number(s[2]))
		if valid && c.Lo > c.Hi {
			c.Lo, c.Hi = c.Hi, c.Lo
		}
		if !valid && s[0] > 200 {
			c.Prefix = string(s[:s[0]%3+1])
		}
		l = append(l, c)
	}
	return l
}

// P10.1 to P10.4, R1: whatever the clauses are.
func FuzzCovers(f *testing.F) {
	f.Add([]byte{}, []byte{0, 0, 200})
	f.Add([]byte{1, 0, 9}, []byte{2, 3, 4})
	f.Add([]byte{0, 0, 5, 1, 4, 10}, []byte{2, 8, 20, 9, 3, 3})
	f.Add([]byte{11, 0, 200, 13, 0, 200, 14, 0, 9}, []byte{0, 0, 200})
	f.Add([]byte{1, 0, 10, 1, 11, 20, 2, 5, 30}, []byte{210, 255, 251, 7, 40, 30})
	f.Fuzz(func(t *testing.T, x, y []byte) {
		sameAgain(t, filterOf(x, false), filterOf(y, false))
		a, b := filterOf(x, true), filterOf(y, true)
		for _, l := range [][2][]api.Clause{{a, b}, {b, a}, {a, a}, {cover.Meet(a, b), a}, {a, cover.Join(a, b)}} {
			holds(t, l[0], l[1])
			witnessIs(t, l[0], l[1])
		}
		if !cover.Subsumes(a, a) || !cover.Subsumes(a, cover.Meet(a, b)) || !cover.Subsumes(cover.Join(a, b), b) {
			t.Errorf("of %v and %v Meet is not below, or Join not above", a, b)
		}
	})
}
