package vec_test

import (
	"math"
	"slices"
	"testing"

	"lighterage/api"
	"lighterage/vec"
)

const (
	least = math.MinInt
	most  = math.MaxInt
)

// modelNumber is how a vector's number counts.
func modelNumber(v api.Vec, by int) int {
	if by < 1 || by > 64 || v[by] < 0 {
		return 0
	}
	return v[by]
}

// modelClean is a vector of the numbers as they count.
func modelClean(v api.Vec) api.Vec {
	var clean api.Vec
	for by := range 65 {
		clean[by] = modelNumber(v, by)
	}
	return clean
}

// modelValid is what the document says of a version.
func modelValid(x api.Ver) bool {
	return 1 <= x.By && x.By <= 64 && 1 <= x.N && x.N <= 1<<63-1
}

// modelHas tells whether a vector contains a version, by the words of the document.
func modelHas(v api.Vec, x api.Ver) bool {
	return modelValid(x) && x.N <= modelNumber(v, x.By)
}

// modelOf is of each replica the number of its last version that is valid.
func modelOf(l []api.Ver) api.Vec {
	var v api.Vec
	for by := range 65 {
		for _, x := range l {
			if modelValid(x) && x.By == by && x.N > v[by] {
				v[by] = x.N
			}
		}
	}
	return v
}

// modelJoin is the greater number for each replica.
func modelJoin(a, b api.Vec) api.Vec {
	v := modelClean(a)
	for by := range 65 {
		if n := modelNumber(b, by); n > v[by] {
			v[by] = n
		}
	}
	return v
}

// modelMeet is the smaller number for each replica.
func modelMeet(a, b api.Vec) api.Vec {
	v := modelClean(a)
	for by := range 65 {
		if n := modelNumber(b, by); n < v[by] {
			v[by] = n
		}
	}
	return v
}

// modelCovers tells whether of each replica that has versions in b the last one is in a.
func modelCovers(a, b api.Vec) bool {
	for _, x := range modelEnds(b) {
		if !modelHas(a, x) {
			return false
		}
	}
	return true
}

// modelEnds are the last versions, by rising replicas.
func modelEnds(v api.Vec) []api.Ver {
	var l []api.Ver
	for by := 1; by <= 64; by++ {
		if v[by] > 0 {
			l = append(l, ver(by, v[by]))
		}
	}
	return l
}

// edges are numbers about the limits, and such as are a valid one in fewer bits.
func edges() []int {
	return []int{least, least + 1, -1 << 32, -64, -1, 0, 1, 2, 63, 64, 65, 257, 1<<32 + 1, most - 1, most}
}

// ver is a version.
func ver(by, n int) api.Ver {
	return api.Ver{By: by, N: n}
}

// versOf are the versions of all pairs of some numbers.
func versOf(numbers ...int) []api.Ver {
	var l []api.Ver
	for _, by := range numbers {
		for _, n := range numbers {
			l = append(l, ver(by, n))
		}
	}
	return l
}

// at is a vector that has numbers at some places: a place and its number, one pair behind the other.
func at(l ...int) api.Vec {
	var v api.Vec
	for ; len(l) > 0; l = l[2:] {
		v[l[0]] = l[1]
	}
	return v
}

// vectors are all that have some numbers at some places.
func vectors(places, numbers []int) []api.Vec {
	l := []api.Vec{{}}
	for _, place := range places {
		var more []api.Vec
		for _, v := range l {
			for _, n := range numbers {
				v[place] = n
				more = append(more, v)
			}
		}
		l = more
	}
	return l
}

// fullOf is a vector that has a number at every place.
func fullOf(n int) api.Vec {
	var v api.Vec
	for by := range v {
		v[by] = n
	}
	return v
}

// somes are vectors of many kinds.
func somes() []api.Vec {
	l := []api.Vec{{}, at(0, 7), at(64, most), at(1, 5, 64, 2), at(1, 3, 7, 1), at(0, most, 1, least, 2, 1, 63, -1, 64, 4)}
	for _, n := range edges() {
		l = append(l, fullOf(n), at(1, n), at(64, n, 0, n), at(31, n, 32, 5))
	}
	var rising, mixed api.Vec
	for by := range rising {
		rising[by] = by - 20
		mixed[by] = edges()[by*7%15]
	}
	return append(l, rising, mixed)
}

// near are versions about the ends of some vectors, and about the limits.
func near(l ...api.Vec) []api.Ver {
	found := versOf(edges()...)
	for _, v := range l {
		for by, n := range v {
			// One more than the last number is the first one: that is as good a version to ask for.
			found = append(found, ver(by, n-1), ver(by, n), ver(by, n+1), ver(by, 1))
		}
	}
	return found
}

// showing is a vector in short: the places that have a number other than 0, each with it.
func showing(v api.Vec) []api.Ver {
	var l []api.Ver
	for by, n := range v {
		if n != 0 {
			l = append(l, ver(by, n))
		}
	}
	return l
}

// same holds a vector that was answered against the one that is wanted.
func same(t *testing.T, call string, v, want api.Vec) {
	t.Helper()
	if v != want {
		t.Errorf("%s = %v, want %v", call, showing(v), showing(want))
	}
}

// oneIs holds all calls of one vector against the model.
func oneIs(t *testing.T, v api.Vec) {
	t.Helper()
	// Twice, as it hangs on nothing that was asked ahead of it.
	for range 2 {
		same(t, "Clean", vec.Clean(v), modelClean(v))
		l, want := vec.Ends(v), modelEnds(v)
		if !slices.Equal(l, want) {
			t.Errorf("Ends(%v) = %v, want %v", showing(v), l, want)
		}
		same(t, "Of of Ends", vec.Of(l...), modelClean(v))
		if n := vec.Sum(v); n != len(want) {
			t.Errorf("Sum(%v) = %d, want %d", showing(v), n, len(want))
		}
	}
}

// hasIs holds Has and Add of a vector and a version against the model.
func hasIs(t *testing.T, v api.Vec, x api.Ver) {
	t.Helper()
	if is, want := vec.Has(v, x), modelHas(v, x); is != want {
		t.Errorf("Has(%v, %v) = %t", showing(v), x, is)
	}
	same(t, "Add", vec.Add(v, x), modelJoin(v, modelOf([]api.Ver{x})))
}

// ofIs holds Of against the model.
func ofIs(t *testing.T, l []api.Ver) {
	t.Helper()
	for range 2 {
		same(t, "Of", vec.Of(l...), modelOf(l))
	}
}

// twoIs holds all calls of two vectors against the model.
func twoIs(t *testing.T, a, b api.Vec) {
	t.Helper()
	same(t, "Join", vec.Join(a, b), modelJoin(a, b))
	same(t, "Meet", vec.Meet(a, b), modelMeet(a, b))
	if is, want := vec.Covers(a, b), modelCovers(a, b); is != want {
		t.Errorf("Covers(%v, %v) = %t", showing(a), showing(b), is)
	}
}

// setsAre holds two vectors against one another as the sets of their versions, as far as some versions show it.
func setsAre(t *testing.T, a, b api.Vec, l []api.Ver) {
	t.Helper()
	join, meet, covers := vec.Join(a, b), vec.Meet(a, b), vec.Covers(a, b)
	for _, x := range l {
		inA, inB := vec.Has(a, x), vec.Has(b, x)
		if vec.Has(join, x) != (inA || inB) || vec.Has(meet, x) != (inA && inB) {
			t.Errorf("%v is in %v: %t, and in %v: %t, but not so in Join or Meet", x, showing(a), inA, showing(b), inB)
		}
		if covers && inB && !inA {
			t.Errorf("Covers(%v, %v), but of %v", showing(a), showing(b), x)
		}
	}
	if covers != (join == vec.Clean(a)) || covers != (meet == vec.Clean(b)) {
		t.Errorf("Covers(%v, %v) = %t, Join is %v, Meet is %v", showing(a), showing(b), covers, showing(join), showing(meet))
	}
}
