package iset_test

import (
	"math"
	"slices"
	"testing"

	"lighterage/api"
	"lighterage/iset"
)

const (
	least = math.MinInt
	most  = math.MaxInt
)

// modelBefore is what the document says of the order.
func modelBefore(a, b api.Ver) bool {
	if a.By < b.By {
		return true
	}
	return a.By == b.By && a.N < b.N
}

// modelHas tells whether an item stands in a list.
func modelHas(l []api.Ver, x api.Ver) bool {
	for _, y := range l {
		if y.By == x.By && y.N == x.N {
			return true
		}
	}
	return false
}

// modelOf puts the items of a list one by one ahead of the first that is behind them, unless they are there.
func modelOf(l []api.Ver) []api.Ver {
	var set []api.Ver
	for _, x := range l {
		if modelHas(set, x) {
			continue
		}
		place := 0
		for place < len(set) && modelBefore(set[place], x) {
			place++
		}
		set = slices.Insert(set, place, x)
	}
	return set
}

// modelKeep is the set of the items of a list of which a function says so.
func modelKeep(l []api.Ver, stays func(api.Ver) bool) []api.Ver {
	var some []api.Ver
	for _, x := range l {
		if stays(x) {
			some = append(some, x)
		}
	}
	return modelOf(some)
}

// modelPut is the set with one more.
func modelPut(l []api.Ver, x api.Ver) []api.Ver {
	return modelOf(append([]api.Ver{x}, l...))
}

// modelDrop is the set without one.
func modelDrop(l []api.Ver, x api.Ver) []api.Ver {
	return modelKeep(l, func(y api.Ver) bool { return y.By != x.By || y.N != x.N })
}

// modelJoin is the set of what stands in one of two lists.
func modelJoin(a, b []api.Ver) []api.Ver {
	return modelOf(append(append([]api.Ver{}, a...), b...))
}

// modelMeet is the set of what stands in both.
func modelMeet(a, b []api.Ver) []api.Ver {
	return modelKeep(a, func(x api.Ver) bool { return modelHas(b, x) })
}

// modelMinus is the set of what stands in the first alone.
func modelMinus(a, b []api.Ver) []api.Ver {
	return modelKeep(a, func(x api.Ver) bool { return !modelHas(b, x) })
}

// modelWithin tells whether all that stands in one stands in another one.
func modelWithin(a, b []api.Ver) bool {
	for _, x := range a {
		if !modelHas(b, x) {
			return false
		}
	}
	return true
}

// edges are numbers about the limits, and such as are a valid one in fewer bits.
func edges() []int {
	return []int{least, least + 1, -1 << 32, -64, -1, 0, 1, 2, 63, 64, 65, 257, 1<<32 + 1, most - 1, most}
}

// ver is an item.
func ver(by, n int) api.Ver {
	return api.Ver{By: by, N: n}
}

// versOf are the items of all pairs of some numbers.
func versOf(numbers ...int) []api.Ver {
	var l []api.Ver
	for _, by := range numbers {
		for _, n := range numbers {
			l = append(l, ver(by, n))
		}
	}
	return l
}

// items is a list of items: By and N of each, one pair behind the other.
func items(l ...int) []api.Ver {
	var found []api.Ver
	for ; len(l) > 0; l = l[2:] {
		found = append(found, ver(l[0], l[1]))
	}
	return found
}

// lists are all lists of so many of some, in all orders, with each as often as may be.
func lists(some []api.Ver, many int) [][]api.Ver {
	l := [][]api.Ver{nil}
	for range many {
		var longer [][]api.Ver
		for _, s := range l {
			for _, one := range some {
				longer = append(longer, append(slices.Clone(s), one))
			}
		}
		l = longer
	}
	return l
}

// upTo are all lists of at most so many of some.
func upTo(some []api.Ver, many int) [][]api.Ver {
	var l [][]api.Ver
	for n := range many + 1 {
		l = append(l, lists(some, n)...)
	}
	return l
}

// subsets are all sets of some.
func subsets(some []api.Ver) [][]api.Ver {
	l := [][]api.Ver{nil}
	for _, x := range some {
		for _, s := range l {
			l = append(l, append(slices.Clone(s), x))
		}
	}
	return l
}

// setIs holds a set that was answered against the one that is wanted.
func setIs(t *testing.T, call string, s, want []api.Ver, of ...[]api.Ver) {
	t.Helper()
	if !slices.Equal(s, want) {
		t.Errorf("%s of %v = %v, want %v", call, of, s, want)
	}
}

// ofIs holds Of against the model.
func ofIs(t *testing.T, l []api.Ver) {
	t.Helper()
	// Twice, as it hangs on nothing that was asked ahead of it.
	for range 2 {
		setIs(t, "Of", iset.Of(l...), modelOf(l), l)
	}
}

// oneIs holds all calls of a list and an item against the model.
func oneIs(t *testing.T, l []api.Ver, x api.Ver) {
	t.Helper()
	if is, want := iset.Has(l, x), modelHas(l, x); is != want {
		t.Errorf("Has(%v, %v) = %t", l, x, is)
	}
	for range 2 {
		setIs(t, "Put", iset.Put(l, x), modelPut(l, x), l, []api.Ver{x})
		setIs(t, "Drop", iset.Drop(l, x), modelDrop(l, x), l, []api.Ver{x})
	}
}

// twoIs holds all calls of two lists against the model.
func twoIs(t *testing.T, a, b []api.Ver) {
	t.Helper()
	setIs(t, "Join", iset.Join(a, b), modelJoin(a, b), a, b)
	setIs(t, "Meet", iset.Meet(a, b), modelMeet(a, b), a, b)
	setIs(t, "Minus", iset.Minus(a, b), modelMinus(a, b), a, b)
	if is, want := iset.Within(a, b), modelWithin(a, b); is != want {
		t.Errorf("Within(%v, %v) = %t", a, b, is)
	}
	if is, want := iset.Same(a, b), modelWithin(a, b) && modelWithin(b, a); is != want {
		t.Errorf("Same(%v, %v) = %t", a, b, is)
	}
}
