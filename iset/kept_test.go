package iset_test

import (
	"slices"
	"testing"

	"lighterage/api"
	"lighterage/iset"
)

// setCalls are all calls that answer a set, of two lists.
func setCalls() map[string]func(a, b []api.Ver) []api.Ver {
	return map[string]func(a, b []api.Ver) []api.Ver{
		"Of":    func(a, _ []api.Ver) []api.Ver { return iset.Of(a...) },
		"Put":   func(a, _ []api.Ver) []api.Ver { return iset.Put(a, ver(2, 2)) },
		"Drop":  func(a, _ []api.Ver) []api.Ver { return iset.Drop(a, ver(2, 2)) },
		"Join":  iset.Join,
		"Meet":  iset.Meet,
		"Minus": iset.Minus,
	}
}

// roomy are lists that have spare room behind them, with something in it.
func roomy() [][]api.Ver {
	return [][]api.Ver{
		{ver(9, 9), ver(8, 8), ver(7, 7)},
		items(1, 1, 9, 9, 8, 8, 7, 7),
		items(3, 3, 2, 2, 2, 2, 1, 1, 9, 9, 8, 8, 7, 7),
		items(1, 1, 2, 2, 3, 3, 4, 4, 9, 9, 8, 8, 7, 7),
		items(2, 2, 2, 2, 2, 2, 2, 2, 9, 9, 8, 8, 7, 7),
		items(4, 4, 5, 5, 9, 9, 8, 8, 7, 7),
	}
}

// P14.4, R3: no list that is passed is changed, its spare room neither.
func TestArgumentsStay(t *testing.T) {
	l := roomy()
	for _, a := range l {
		for _, b := range l {
			wasA, wasB := slices.Clone(a), slices.Clone(b)
			x, y := a[:len(a)-3], b[:len(b)-3]
			for name, call := range setCalls() {
				call(x, y)
				if !slices.Equal(a, wasA) || !slices.Equal(b, wasB) {
					t.Fatalf("%s: %v and %v became %v and %v", name, wasA, wasB, a, b)
				}
			}
			iset.Has(x, ver(2, 2))
			iset.Within(x, y)
			iset.Same(x, y)
			if !slices.Equal(a, wasA) || !slices.Equal(b, wasB) {
				t.Fatalf("Has, Within or Same: %v and %v became %v and %v", wasA, wasB, a, b)
			}
		}
	}
}

// P14.4, R3: one list handed in as both stays as it is, too.
func TestOneListAsBoth(t *testing.T) {
	for _, a := range roomy() {
		was := slices.Clone(a)
		x := a[:len(a)-3]
		twoIs(t, x, x)
		twoIs(t, x, a[:len(a)-2])
		if len(x) > 1 {
			twoIs(t, x[1:], x[:len(x)-1])
		}
		if !slices.Equal(a, was) {
			t.Errorf("%v became %v", was, a)
		}
	}
}

// R3: what is answered is new memory: what becomes of it, or of the arguments, is nothing to the other ones.
func TestAnswersAreNew(t *testing.T) {
	for name, call := range setCalls() {
		for _, a := range roomy() {
			for _, b := range roomy() {
				wasA, wasB := slices.Clone(a), slices.Clone(b)
				x, y := a[:len(a)-3], b[:len(b)-3]
				first := call(x, y)
				kept := slices.Clone(first)
				for i := range first[:cap(first)] {
					first[:cap(first)][i] = ver(6, 6)
				}
				if !slices.Equal(a, wasA) || !slices.Equal(b, wasB) {
					t.Fatalf("%s: its answer lies in %v or %v", name, wasA, wasB)
				}
				second := call(x, y)
				if !slices.Equal(second, kept) {
					t.Fatalf("%s of %v and %v = %v, was %v", name, x, y, second, kept)
				}
				for i := range a {
					a[i] = ver(5, 5)
				}
				if !slices.Equal(second, kept) {
					t.Fatalf("%s: %v became %v behind a change of its argument", name, kept, second)
				}
				copy(a, wasA)
			}
		}
	}
}
