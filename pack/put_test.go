package pack_test

import (
	"slices"
	"strings"
	"testing"

	"lighterage/api"
)

// ver is a version.
func ver(by, n int) api.Ver {
	return api.Ver{By: by, N: n}
}

// stamp is a stamp.
func stamp(by, n, time int) api.Stamp {
	return api.Stamp{Ver: ver(by, n), Time: time}
}

// clause is a prefix and a range in one.
func clause(p string, lo, hi int) api.Clause {
	return api.Clause{Prefix: p, Range: api.Range{Lo: lo, Hi: hi}}
}

// vector is the vector of numbers, from replica 1 on.
func vector(l ...int) api.Vec {
	var v api.Vec
	copy(v[1:], l)
	return v
}

// at is the vector of one number, valid or not.
func at(by, n int) api.Vec {
	var v api.Vec
	v[by] = n
	return v
}

// edges are numbers about the limits, and such as are a valid one in fewer bits, or stand in other many bytes.
func edges() []int {
	return []int{least, least + 1, -1 << 32, -1, 0, 1, 2, 63, 64, 65, 127, 128, 199, 200, 201, 255, 256, 257, 16383, 16384, 1<<32 + 1, 1<<56 - 1, 1 << 56, most - 1, most}
}

// paths are paths, and texts about their limits that are none.
func paths() []string {
	return []string{
		"a", "a/b", "a.b-c_9", "a/b/c/d/e/f", "aaaaaaaaaaaa", "aaaaaaaaaaaa/aaaaaaaaaaaa/aaaaaaaaaaaa/a",
		"", "/", "/a", "a/", "a//b", ".", "a/..", "a/b/c/d/e/f/g", "aaaaaaaaaaaaa", "aaaaaaaaaaaa/aaaaaaaaaaaa/aaaaaaaaaaaa/aa",
		"A", "a b", "\xff", "ä", "a\x00", strings.Repeat("x", 1<<10), strings.Repeat("a", blob+1),
	}
}

// P17.1: updates as bytes.
func TestUpdate(t *testing.T) {
	k := updates()
	x, s := ver(1, 2), stamp(3, 4, 5)
	k.isTold(t, api.Update{Item: x, Stamp: s, Path: "a", Data: "xy"}, "\x01\x02\x03\x04\x05\x01a\x02xy\x00")
	k.isTold(t, api.Update{Item: x, Stamp: s, Path: "a"}, "\x01\x02\x03\x04\x05\x01a\x00\x00")
	k.isTold(t, api.Update{Item: x, Stamp: s, Path: "a/b-c", Dead: true}, "\x01\x02\x03\x04\x05\x05a/b-c\x00\x01")
	k.isTold(t, api.Update{Item: x, Stamp: s, Path: "a", Data: "\x00\xff\n"}, "\x01\x02\x03\x04\x05\x01a\x03\x00\xff\n\x00")
	k.isTold(t, api.Update{Item: ver(64, most), Stamp: stamp(64, 300, most), Path: "a", Data: strings.Repeat("z", 200)},
		"\x40"+strings.Repeat("\xff", 8)+"\x7f\x40\xac\x02"+strings.Repeat("\xff", 8)+"\x7f\x01a\xc8\x01"+strings.Repeat("z", 200)+"\x00")
	k.isWrong(t, api.ErrArg,
		api.Update{},
		api.Update{Stamp: s, Path: "a"},
		api.Update{Item: x, Path: "a"},
		api.Update{Item: x, Stamp: s},
		api.Update{Item: ver(65, 1), Stamp: s, Path: "a"},
		api.Update{Item: x, Stamp: stamp(1, 1, 0), Path: "a"},
		api.Update{Item: x, Stamp: s, Path: "a/"},
		api.Update{Item: x, Stamp: s, Path: "a", Data: strings.Repeat("z", 201)},
		api.Update{Item: x, Stamp: s, Path: "a", Data: strings.Repeat("z", blob+1)},
		api.Update{Item: x, Stamp: s, Path: "a", Data: "x", Dead: true},
	)
}

// P17.1: metas as bytes.
func TestMeta(t *testing.T) {
	k := metas()
	x, s := ver(1, 2), stamp(3, 4, 5)
	k.isTold(t, api.Meta{Item: x, Stamp: s, Path: "a", Size: 2}, "\x01\x02\x03\x04\x05\x01a\x02\x00")
	k.isTold(t, api.Meta{Item: x, Stamp: s, Path: "a"}, "\x01\x02\x03\x04\x05\x01a\x00\x00")
	k.isTold(t, api.Meta{Item: x, Stamp: s, Path: "a", Dead: true}, "\x01\x02\x03\x04\x05\x01a\x00\x01")
	k.isTold(t, api.Meta{Item: x, Stamp: s, Path: "a", Size: 200}, "\x01\x02\x03\x04\x05\x01a\xc8\x01\x00")
	k.isWrong(t, api.ErrArg,
		api.Meta{},
		api.Meta{Stamp: s, Path: "a"},
		api.Meta{Item: x, Path: "a"},
		api.Meta{Item: x, Stamp: s},
		api.Meta{Item: x, Stamp: s, Path: "a", Size: 201},
		api.Meta{Item: x, Stamp: s, Path: "a", Size: -1},
		api.Meta{Item: x, Stamp: s, Path: "a", Size: 1, Dead: true},
		api.Meta{Item: x, Stamp: s, Path: "a", Size: most},
	)
}

// P17.1, P17.3, R5: numbers about all limits at each place of updates and metas, with all paths.
func TestUpdateEdges(t *testing.T) {
	for _, p := range paths() {
		for _, dead := range []bool{false, true} {
			m := api.Meta{Item: ver(1, 1), Stamp: stamp(1, 1, 1), Path: p, Dead: dead}
			for _, place := range []*int{&m.Item.By, &m.Item.N, &m.By, &m.N, &m.Time, &m.Size} {
				was := *place
				for _, n := range edges() {
					*place = n
					metas().putIs(t, m)
					for _, data := range []string{"", "x", strings.Repeat("\xff", max(0, min(n, 300)))} {
						updates().putIs(t, api.Update{Item: m.Item, Stamp: m.Stamp, Path: p, Data: data, Dead: dead})
					}
				}
				*place = was
			}
		}
	}
}

// P17.1: vectors as bytes.
func TestVec(t *testing.T) {
	k := vectors()
	k.isTold(t, api.Vec{}, "\x00")
	k.isTold(t, vector(5), "\x01\x02\x01\x05")
	k.isTold(t, vector(5, 0, 300), "\x02\x02\x01\x05\x03\x03\xac\x02")
	k.isTold(t, at(64, most), "\x01\x0a\x40"+strings.Repeat("\xff", 8)+"\x7f")
	full, s := api.Vec{}, "\x40"
	for by := 1; by <= 64; by++ {
		full[by] = 1
		s += "\x02" + string(rune(by)) + "\x01"
	}
	k.isTold(t, full, s)
	k.isWrong(t, api.ErrArg, at(0, 1), at(0, -1), at(1, -1), at(64, least), at(0, most))
}

// P17.1, R5: numbers about all limits at each place of vectors.
func TestVecEdges(t *testing.T) {
	for by := range len(api.Vec{}) {
		for _, n := range edges() {
			vectors().putIs(t, at(by, n))
			for _, v := range []api.Vec{vector(1, 2, 3, 4), vector(0, most, 0, 1<<56), vector(slices.Repeat([]int{most}, 64)...)} {
				v[by] = n
				vectors().putIs(t, v)
			}
		}
	}
}

// P17.1: items as bytes.
func TestItems(t *testing.T) {
	k := items()
	k.isTold(t, nil, "\x00")
	k.isTold(t, []api.Ver{}, "\x00")
	k.isTold(t, []api.Ver{ver(1, 1)}, "\x01\x02\x01\x01")
	k.isTold(t, []api.Ver{ver(1, 1), ver(1, 300), ver(2, 1), ver(64, 2)}, "\x04\x02\x01\x01\x03\x01\xac\x02\x02\x02\x01\x02\x40\x02")
	k.isWrong(t, api.ErrArg,
		[]api.Ver{{}},
		[]api.Ver{ver(0, 1)},
		[]api.Ver{ver(65, 1)},
		[]api.Ver{ver(1, 0)},
		[]api.Ver{ver(1, -1)},
		[]api.Ver{ver(2, 1), ver(1, 1)},
		[]api.Ver{ver(1, 2), ver(1, 1)},
		[]api.Ver{ver(1, 1), ver(1, 1)},
		[]api.Ver{ver(1, 1), ver(2, 1), ver(1, 3)},
		[]api.Ver{ver(1, 1), ver(2, 1), ver(2, 0)},
		[]api.Ver{ver(0, 1), ver(1, 1)},
		[]api.Ver{ver(64, 1), ver(65, 1)},
	)
}

// P17.1, R5: all lists of up to three of some versions, and numbers about all limits.
func TestItemsEdges(t *testing.T) {
	some := []api.Ver{ver(1, 1), ver(1, 2), ver(2, 1), ver(2, 3), ver(64, most), ver(0, 1), ver(1, 0), ver(65, 2)}
	for _, n := range edges() {
		some = append(some, ver(n, 1), ver(7, n))
	}
	for _, a := range some {
		items().putIs(t, []api.Ver{a})
		for _, b := range some {
			items().putIs(t, []api.Ver{a, b})
			for _, c := range some[:8] {
				items().putIs(t, []api.Ver{c, a, b})
			}
		}
	}
}

// P17.1: filters as bytes.
func TestFilter(t *testing.T) {
	k := filters()
	k.isTold(t, nil, "\x00")
	k.isTold(t, []api.Clause{}, "\x00")
	k.isTold(t, []api.Clause{clause("", 0, 200)}, "\x01\x04\x00\x00\xc8\x01")
	k.isTold(t, []api.Clause{clause("a/b", 3, 4)}, "\x01\x06\x03a/b\x03\x04")
	// As they stand: in no order, one more than once, and none in a normal form.
	k.isTold(t, []api.Clause{clause("b", 1, 1), clause("a", 2, 9), clause("b", 1, 1), clause("", 0, 127)}, "\x04\x04\x01b\x01\x01\x04\x01a\x02\x09\x04\x01b\x01\x01\x03\x00\x00\x7f")
	k.isWrong(t, api.ErrArg,
		[]api.Clause{clause("/", 0, 200)},
		[]api.Clause{clause("a", 0, 201)},
		[]api.Clause{clause("a", -1, 3)},
		[]api.Clause{clause("a", 4, 3)},
		[]api.Clause{clause("a", 0, 9), clause("a/", 0, 9)},
		[]api.Clause{clause("a", 0, 9), clause("b", 10, 9), clause("c", 0, 9)},
	)
}

// P17.1, R5: numbers about all limits in a clause, with all prefixes.
func TestFilterEdges(t *testing.T) {
	for _, p := range paths() {
		for _, lo := range edges() {
			for _, hi := range edges() {
				filters().putIs(t, []api.Clause{clause(p, lo, hi)})
				filters().putIs(t, []api.Clause{clause("b", 0, 9), clause(p, lo, hi), clause("", 0, 9)})
			}
		}
	}
}

// P17.1: up to 64 clauses, each of which is looked at.
func TestFilterMany(t *testing.T) {
	long := "aaaaaaaaaaaa/aaaaaaaaaaaa/aaaaaaaaaaaa/a"
	for _, many := range []int{7, 8, 9, 16, 17, 63, 64, 65, 66, 128, 1000} {
		f := slices.Repeat([]api.Clause{clause(long, 128, 200)}, many)
		want := api.OK
		if many > 64 {
			want = api.ErrArg
		}
		if e := filters().putIs(t, f); e != want {
			t.Errorf("%d clauses: the model tells %d", many, int(e))
		}
		for i := range f {
			f[i] = clause(long, 200, 199)
			filters().isWrong(t, api.ErrArg, f)
			f[i] = clause(long+"a", 0, 0)
			filters().isWrong(t, api.ErrArg, f)
			f[i] = clause(long, 128, 200)
		}
	}
}

// small is knowledge with two claims of either kind.
func small() api.Know {
	return api.Know{
		Frags: []api.Frag{
			{F: []api.Clause{clause("a", 0, 9)}, V: vector(5), Not: []api.Ver{ver(1, 1), ver(2, 2)}},
			{F: []api.Clause{clause("b", 1, 2), clause("", 3, 4)}, V: vector(0, 3)},
		},
		Items: []api.Known{{Item: ver(2, 2), V: vector(7)}, {Item: ver(1, 1)}},
	}
}

// P17.1: knowledge as bytes.
func TestKnow(t *testing.T) {
	k := knowledge()
	k.isTold(t, api.Know{}, "\x01\x00\x01\x00")
	k.isTold(t, api.Know{Frags: []api.Frag{}, Items: []api.Known{}}, "\x01\x00\x01\x00")
	k.isTold(t, api.Know{Frags: []api.Frag{{}}}, "\x08\x01\x06\x01\x00\x01\x00\x01\x00\x01\x00")
	k.isTold(t, api.Know{Items: []api.Known{{Item: ver(2, 3)}}}, "\x01\x00\x06\x01\x04\x02\x03\x01\x00")
	k.isTold(t, api.Know{Items: []api.Known{{Item: ver(2, 3), V: vector(5)}}}, "\x01\x00\x09\x01\x07\x02\x03\x04\x01\x02\x01\x05")
	k.isTold(t, api.Know{Frags: []api.Frag{{F: []api.Clause{clause("a", 0, 9)}, V: vector(5), Not: []api.Ver{ver(7, 8)}}}},
		"\x13\x01\x11\x06\x01\x04\x01a\x00\x09\x04\x01\x02\x01\x05\x04\x01\x02\x07\x08\x01\x00")
	k.isTold(t, small(), "\x29\x02"+
		"\x14\x06\x01\x04\x01a\x00\x09\x04\x01\x02\x01\x05\x07\x02\x02\x01\x01\x02\x02\x02"+
		"\x12\x0a\x02\x04\x01b\x01\x02\x03\x00\x03\x04\x04\x01\x02\x02\x03\x01\x00"+
		"\x0e\x02\x07\x02\x02\x04\x01\x02\x01\x07\x04\x01\x01\x01\x00")
}
