package know_test

import (
	"fmt"
	"math"
	"slices"
	"strconv"
	"strings"
	"testing"

	"lighterage/api"
	"lighterage/know"
)

const (
	least = math.MinInt
	most  = math.MaxInt
)

// model is of each size whether a filter has it at a path.
type model [201]bool

// modelCovers is what the document says of a prefix and what it covers.
func modelCovers(prefix, s string) bool {
	return prefix == "" || prefix == s || len(s) > len(prefix) && s[:len(prefix)] == prefix && s[len(prefix)] == '/'
}

// modelSizes is of which sizes a filter has clauses at a path.
func modelSizes(f []api.Clause, p string) model {
	var m model
	for _, c := range f {
		if !modelCovers(c.Prefix, p) {
			continue
		}
		for n := max(c.Lo, 0); n <= min(c.Hi, 200); n++ {
			m[n] = true
		}
	}
	return m
}

// prefixes are those of all clauses of filters, each once, by rising bytes.
func prefixes(l ...[]api.Clause) []string {
	var s []string
	for _, f := range l {
		for _, c := range f {
			s = append(s, c.Prefix)
		}
	}
	slices.Sort(s)
	return slices.Compact(s)
}

// above is what stands ahead of a path's last name.
func above(p string) string {
	return p[:max(strings.LastIndexByte(p, '/'), 0)]
}

// modelForm is the normal form of the filter that has certain sizes at each path, and has others than
// those of the path above it only at some.
func modelForm(at func(p string) model, some []string) []api.Clause {
	var l []api.Clause
	for _, p := range some {
		var up model
		if p != "" {
			up = at(above(p))
		}
		own := at(p)
		for n := 0; n < len(own); n++ {
			if !own[n] || up[n] {
				continue
			}
			lo := n
			for n+1 < len(own) && own[n+1] && !up[n+1] {
				n++
			}
			l = append(l, clause(p, lo, n))
		}
	}
	return l
}

// modelNorm is the normal form of a filter.
func modelNorm(f []api.Clause) []api.Clause {
	return modelForm(func(p string) model { return modelSizes(f, p) }, prefixes(f))
}

// modelMeet is the normal form of what two filters both have.
func modelMeet(f, g []api.Clause) []api.Clause {
	return modelForm(func(p string) model {
		a, b := modelSizes(f, p), modelSizes(g, p)
		for n := range a {
			a[n] = a[n] && b[n]
		}
		return a
	}, prefixes(f, g))
}

// modelSubsumes tells whether a filter has at every path what another one has.
func modelSubsumes(f, g []api.Clause) bool {
	for _, p := range append(prefixes(f, g), "") {
		a, b := modelSizes(f, p), modelSizes(g, p)
		for n := range b {
			if b[n] && !a[n] {
				return false
			}
		}
	}
	return true
}

// modelNumber is how a vector's number counts.
func modelNumber(v api.Vec, by int) int {
	if by < 1 || by > 64 || v[by] < 0 {
		return 0
	}
	return v[by]
}

// modelJoin is the greater number for each replica.
func modelJoin(a, b api.Vec) api.Vec {
	var v api.Vec
	for by := range v {
		v[by] = max(modelNumber(a, by), modelNumber(b, by))
	}
	return v
}

// modelHas tells whether a vector contains a version.
func modelHas(v api.Vec, x api.Ver) bool {
	return x.By >= 1 && x.By <= 64 && x.N >= 1 && x.N <= modelNumber(v, x.By)
}

// modelWithin tells whether all items of one list stand in another one.
func modelWithin(a, b []api.Ver) bool {
	for _, x := range a {
		if !slices.Contains(b, x) {
			return false
		}
	}
	return true
}

// modelBefore is the order of items.
func modelBefore(a, b api.Ver) bool {
	return a.By < b.By || a.By == b.By && a.N < b.N
}

// modelSet puts the items of a list one by one ahead of the first that is behind them, unless they are there.
func modelSet(l []api.Ver) []api.Ver {
	var set []api.Ver
	for _, x := range l {
		if slices.Contains(set, x) {
			continue
		}
		place := 0
		for place < len(set) && modelBefore(set[place], x) {
			place++
		}
		set = slices.Insert(set, place, x)
	}
	return set
}

// modelContains is what the document says of knowledge, a version of an item, and a filter.
func modelContains(k api.Know, item, v api.Ver, f []api.Clause) bool {
	for _, x := range k.Items {
		if x.Item == item && modelHas(x.V, v) {
			return true
		}
	}
	some := false
	var join []api.Clause
	for _, x := range k.Frags {
		if len(x.F) > 0 && modelHas(x.V, v) && !slices.Contains(x.Not, item) {
			some = true
			join = append(join, x.F...)
		}
	}
	return some && modelSubsumes(join, f)
}

// modelIncludes tells whether a whole claim includes another one.
func modelIncludes(x, y api.Frag) bool {
	return modelSubsumes(x.F, y.F) && modelJoin(x.V, y.V) == x.V && modelWithin(x.Not, y.Not)
}

// modelAhead tells whether a whole claim comes ahead of another one.
func modelAhead(x, y api.Frag) bool {
	for by := range x.V {
		if x.V[by] != y.V[by] {
			return x.V[by] > y.V[by]
		}
	}
	for i := 0; i < len(x.Not) || i < len(y.Not); i++ {
		if i >= len(x.Not) || i >= len(y.Not) {
			return i >= len(x.Not)
		}
		if x.Not[i] != y.Not[i] {
			return modelBefore(x.Not[i], y.Not[i])
		}
	}
	for i := 0; i < len(x.F) || i < len(y.F); i++ {
		if i >= len(x.F) || i >= len(y.F) {
			return i >= len(x.F)
		}
		c, d := x.F[i], y.F[i]
		switch {
		case c.Prefix != d.Prefix:
			return c.Prefix < d.Prefix
		case c.Lo != d.Lo:
			return c.Lo < d.Lo
		case c.Hi != d.Hi:
			return c.Hi < d.Hi
		}
	}
	return false
}

// modelAlone are whole claims of which no two have the same V and Not, and each says something.
func modelAlone(l []api.Frag) []api.Frag {
	var alone []api.Frag
	for _, x := range l {
		x = api.Frag{F: slices.Clone(x.F), V: modelJoin(x.V, x.V), Not: modelSet(x.Not)}
		place := slices.IndexFunc(alone, func(y api.Frag) bool { return y.V == x.V && slices.Equal(y.Not, x.Not) })
		if place < 0 {
			alone = append(alone, x)
			continue
		}
		alone[place].F = append(alone[place].F, x.F...)
	}
	var say []api.Frag
	for _, x := range alone {
		x.F = modelNorm(x.F)
		if len(x.F) > 0 && x.V != (api.Vec{}) {
			say = append(say, x)
		}
	}
	return say
}

// modelFrags are whole claims in canonical form.
func modelFrags(l []api.Frag) []api.Frag {
	alone := modelAlone(l)
	var frags []api.Frag
	for i, x := range alone {
		included := false
		for k, y := range alone {
			// Of two that include each other, the first one stays.
			if k != i && modelIncludes(y, x) && (k < i || !modelIncludes(x, y)) {
				included = true
			}
		}
		if included {
			continue
		}
		place := 0
		for place < len(frags) && modelAhead(frags[place], x) {
			place++
		}
		frags = slices.Insert(frags, place, x)
	}
	return frags
}

// modelItems are items' claims in canonical form.
func modelItems(l []api.Known) []api.Known {
	var all []api.Ver
	for _, x := range l {
		all = append(all, x.Item)
	}
	var items []api.Known
	for _, item := range modelSet(all) {
		one := api.Known{Item: item}
		for _, x := range l {
			if x.Item == item {
				one.V = modelJoin(one.V, x.V)
			}
		}
		if one.V != (api.Vec{}) {
			items = append(items, one)
		}
	}
	return items
}

// modelCanon is the canonical form.
func modelCanon(k api.Know) api.Know {
	return api.Know{Frags: modelFrags(k.Frags), Items: modelItems(k.Items)}
}

// modelAdd gives the item's claim a version, if that may be; a claim of no version is none.
func modelAdd(k api.Know, item, v api.Ver) api.Know {
	if v.By < 1 || v.By > 64 || v.N < 1 {
		return modelCanon(k)
	}
	one := api.Known{Item: item}
	one.V[v.By] = v.N
	return modelCanon(api.Know{Frags: k.Frags, Items: append([]api.Known{one}, k.Items...)})
}

// modelUnion has the claims of both.
func modelUnion(a, b api.Know) api.Know {
	return modelCanon(api.Know{Frags: slices.Concat(b.Frags, a.Frags), Items: slices.Concat(b.Items, a.Items)})
}

// modelExcept says nothing of an item.
func modelExcept(k api.Know, item api.Ver) api.Know {
	var left api.Know
	for _, x := range k.Frags {
		left.Frags = append(left.Frags, api.Frag{F: x.F, V: x.V, Not: append([]api.Ver{item}, x.Not...)})
	}
	for _, x := range k.Items {
		if x.Item != item {
			left.Items = append(left.Items, x)
		}
	}
	return modelCanon(left)
}

// modelRestrict has whole claims as far as a filter goes.
func modelRestrict(k api.Know, f []api.Clause) api.Know {
	left := api.Know{Items: k.Items}
	for _, x := range k.Frags {
		left.Frags = append(left.Frags, api.Frag{F: modelMeet(x.F, f), V: x.V, Not: x.Not})
	}
	return modelCanon(left)
}

// modelCompact is the canonical form without the items' claims whose last versions the whole claims contain.
func modelCompact(k api.Know, f []api.Clause) api.Know {
	c := modelCanon(k)
	left := api.Know{Frags: c.Frags}
	for _, x := range c.Items {
		all := true
		for by, n := range x.V {
			all = all && (n == 0 || modelContains(api.Know{Frags: c.Frags}, x.Item, ver(by, n), f))
		}
		if !all {
			left.Items = append(left.Items, x)
		}
	}
	return left
}

// clause is a prefix and a range in one.
func clause(p string, lo, hi int) api.Clause {
	return api.Clause{Prefix: p, Range: api.Range{Lo: lo, Hi: hi}}
}

// ver is a version, or an item.
func ver(by, n int) api.Ver {
	return api.Ver{By: by, N: n}
}

// pairs reads what stands between commas: two numbers with a dot between them; a dash is nothing.
func pairs(s string) [][2]int {
	var l [][2]int
	for one := range strings.SplitSeq(s, ",") {
		var x [2]int
		if s == "-" {
			continue
		}
		if _, e := fmt.Sscanf(one, "%d.%d", &x[0], &x[1]); e != nil {
			panic(s)
		}
		l = append(l, x)
	}
	return l
}

// cs reads a filter: a:0-9,:0-5, of the prefixes a and "", or a dash, of nothing.
func cs(s string) []api.Clause {
	var l []api.Clause
	for one := range strings.SplitSeq(s, ",") {
		prefix, rest, is := strings.Cut(one, ":")
		if !is {
			continue
		}
		lo, hi, _ := strings.Cut(rest, "-")
		c := api.Clause{Prefix: prefix}
		var e, f error
		c.Lo, e = strconv.Atoi(lo)
		c.Hi, f = strconv.Atoi(hi)
		if e != nil || f != nil {
			panic(s)
		}
		l = append(l, c)
	}
	return l
}

// vecOf reads a vector: 1.5,2.3 has 5 at 1, and 3 at 2.
func vecOf(s string) api.Vec {
	var v api.Vec
	for _, x := range pairs(s) {
		v[x[0]] = x[1]
	}
	return v
}

// versOf reads versions, or items: 1.5,2.3.
func versOf(s string) []api.Ver {
	var l []api.Ver
	for _, x := range pairs(s) {
		l = append(l, ver(x[0], x[1]))
	}
	return l
}

// kn reads knowledge: "a:0-9,b:0-5 1.5,2.3 9.9" is a whole claim, whose Not is 9.9; "=9.9 1.5" is an item's claim.
func kn(texts ...string) api.Know {
	var k api.Know
	for _, s := range texts {
		parts := strings.Fields(s + " -")
		if item, is := strings.CutPrefix(parts[0], "="); is {
			k.Items = append(k.Items, api.Known{Item: versOf(item)[0], V: vecOf(parts[1])})
			continue
		}
		k.Frags = append(k.Frags, api.Frag{F: cs(parts[0]), V: vecOf(parts[1]), Not: versOf(parts[2])})
	}
	return k
}

// told is knowledge as it is read, but with the numbers that count for nothing, too.
func told(k api.Know) string {
	var s []string
	vector := func(v api.Vec) string {
		var l []string
		for by, n := range v {
			if n != 0 {
				l = append(l, fmt.Sprintf("%d.%d", by, n))
			}
		}
		return strings.Join(l, ",")
	}
	for _, x := range k.Frags {
		s = append(s, fmt.Sprintf("%v %s %v", x.F, vector(x.V), x.Not))
	}
	for _, x := range k.Items {
		s = append(s, fmt.Sprintf("=%v %s", x.Item, vector(x.V)))
	}
	return "<" + strings.Join(s, "; ") + ">"
}

// same tells whether two have the very same claims, in the same order.
func same(a, b api.Know) bool {
	return slices.Equal(a.Items, b.Items) && slices.EqualFunc(a.Frags, b.Frags, func(x, y api.Frag) bool {
		return x.V == y.V && slices.Equal(x.F, y.F) && slices.Equal(x.Not, y.Not)
	})
}

// knowIs holds knowledge that was answered against the one that is wanted.
func knowIs(t *testing.T, call string, k, want api.Know, of ...api.Know) {
	t.Helper()
	if same(k, want) {
		return
	}
	var from []string
	for _, x := range of {
		from = append(from, told(x))
	}
	t.Errorf("%s of %v = %s, want %s", call, from, told(k), told(want))
}

// canonIs holds the canonical form against the model.
func canonIs(t *testing.T, k api.Know) {
	t.Helper()
	want := modelCanon(k)
	// Twice, as it hangs on nothing that was asked ahead of it.
	for range 2 {
		knowIs(t, "Canon", know.Canon(k), want, k)
	}
	knowIs(t, "Canon of Canon", know.Canon(want), want, k)
}

// containsIs holds what knowledge contains against the model.
func containsIs(t *testing.T, k api.Know, item, v api.Ver, f []api.Clause) {
	t.Helper()
	want := modelContains(k, item, v, f)
	for range 2 {
		if is := know.Contains(k, item, v, f); is != want {
			t.Errorf("Contains(%s, %v, %v, %v) = %t", told(k), item, v, f, is)
		}
	}
}

// oneIs holds the calls of knowledge, an item, a version and a filter against the model.
func oneIs(t *testing.T, k api.Know, item, v api.Ver, f []api.Clause) {
	t.Helper()
	containsIs(t, k, item, v, f)
	for range 2 {
		knowIs(t, fmt.Sprintf("Add %v %v", item, v), know.Add(k, item, v), modelAdd(k, item, v), k)
		knowIs(t, fmt.Sprintf("Except %v", item), know.Except(k, item), modelExcept(k, item), k)
		knowIs(t, fmt.Sprintf("Restrict %v", f), know.Restrict(k, f), modelRestrict(k, f), k)
		knowIs(t, fmt.Sprintf("Compact %v", f), know.Compact(k, f), modelCompact(k, f), k)
	}
}

// twoIs holds the calls of two against the model.
func twoIs(t *testing.T, a, b api.Know) {
	t.Helper()
	for range 2 {
		knowIs(t, "Union", know.Union(a, b), modelUnion(a, b), a, b)
	}
	if is, want := know.Same(a, b), same(modelCanon(a), modelCanon(b)); is != want {
		t.Errorf("Same of %s and %s = %t", told(a), told(b), is)
	}
	granted := a
	for _, x := range b.Frags {
		one := api.Know{Frags: []api.Frag{x}}
		knowIs(t, "Grant", know.Grant(a, x), modelUnion(a, one), a, one)
		granted = know.Grant(granted, x)
	}
	if len(b.Frags) > 0 && !same(granted, know.Canon(granted)) {
		t.Errorf("Grant of %s and %s = %s, which is not canonical", told(a), told(b), told(granted))
	}
}

// edges are numbers about the limits, and such as are a valid one in fewer bits.
func edges() []int {
	return []int{least, least + 1, -1 << 32, -64, -1, 0, 1, 2, 63, 64, 65, 257, 1<<32 + 1, most - 1, most}
}

// filters are such as subsume one another, or a part of one another, or nothing.
func filters() [][]api.Clause {
	var l [][]api.Clause
	for _, s := range []string{":0-200", "a:0-200", "b:0-200", "a:0-5", "a:6-200", "b:0-200,a:0-5", "a/b:0-200", "a/b:2-9,:0-3", "-"} {
		l = append(l, cs(s))
	}
	return l
}

// frags are whole claims: of all these filters, of some vectors, and some items.
func frags() []api.Frag {
	var l []api.Frag
	for _, f := range filters() {
		for _, v := range []string{"1.1", "1.2", "2.1", "1.1,2.1", "1.2,64.1", "0.5,1.1,2.-3", "0.9,3.-1"} {
			for _, not := range []string{"-", "9.9", "8.8", "9.9,8.8,9.9"} {
				l = append(l, api.Frag{F: f, V: vecOf(v), Not: versOf(not)})
			}
		}
	}
	return l
}

// knowns are items' claims.
func knowns() []api.Known {
	var l []api.Known
	for _, item := range versOf("9.9,8.8,0.0") {
		for _, v := range []string{"-", "1.1", "1.2", "2.1", "1.1,2.1", "0.5,1.1,2.-3", "0.9,3.-1"} {
			l = append(l, api.Known{Item: item, V: vecOf(v)})
		}
	}
	return l
}

// turner makes the function that tells numbers below others, one behind the other, in an order of no sense that is always the same.
func turner() func(below int) int {
	state := uint64(1)
	return func(below int) int {
		state = state*6364136223846793005 + 1442695040888963407
		return int(state>>33) % below
	}
}

// mixed is a list in another order, as a function turns.
func mixed[T any](l []T, turn func(int) int) []T {
	m := slices.Clone(l)
	for i := range m {
		k := turn(i + 1)
		m[i], m[k] = m[k], m[i]
	}
	return m
}

// oneOf is one of a list, as a function turns.
func oneOf[T any](l []T, turn func(int) int) T {
	return l[turn(len(l))]
}

// somer makes the function that tells knowledge of up to so many whole claims, and up to so many items' claims, as a function turns.
func somer(turn func(int) int) func(wholes, items int) api.Know {
	f, l := frags(), knowns()
	return func(wholes, items int) api.Know {
		var k api.Know
		for range turn(wholes + 1) {
			k.Frags = append(k.Frags, oneOf(f, turn))
		}
		for range turn(items + 1) {
			k.Items = append(k.Items, oneOf(l, turn))
		}
		return k
	}
}
