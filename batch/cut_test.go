package batch_test

import (
	"slices"
	"strings"
	"testing"

	"lighterage/api"
	"lighterage/batch"
	"lighterage/msg"
)

// counts are how many entries each batch has.
func counts(batches [][]api.Entry) []int {
	var l []int
	for _, b := range batches {
		l = append(l, len(b))
	}
	return l
}

// of are entries of so many bytes each, from 5 to 21, of items of their own.
func of(sizes ...int) []api.Entry {
	var l []api.Entry
	for i, n := range sizes {
		l = append(l, out(i%64+1, n))
	}
	return l
}

// isCut tells of entries that are cut otherwise than into so many each.
func isCut(t *testing.T, l []api.Entry, limit int, want ...int) {
	t.Helper()
	if e := allIs(t, l, limit); e != api.OK {
		t.Errorf("of %s and %d the model is %d", sizes([][]api.Entry{l}), limit, int(e))
	}
	x, e := batch.Cut(l, limit)
	if e != api.OK || !slices.Equal(counts(x), want) {
		t.Errorf("Cut(%s, %d) = %v, %d, want %v", sizes([][]api.Entry{l}), limit, counts(x), int(e), want)
	}
}

// isNotCut tells of entries, and limits, of which Cut or Make does not tell this error.
func isNotCut(t *testing.T, want api.Errno, l []api.Entry, limits ...int) {
	t.Helper()
	for _, limit := range limits {
		if e := allIs(t, l, limit); e != want {
			t.Errorf("of %s and %d the model is %d, want %d", sizes([][]api.Entry{l}), limit, int(e), int(want))
		}
		if x, e := batch.Cut(l, limit); len(x) != 0 || e != want {
			t.Errorf("Cut(%s, %d) = %v, %d, want %d", sizes([][]api.Entry{l}), limit, counts(x), int(e), int(want))
		}
		if x, e := batch.Make(full(), l, limit); len(x) != 0 || e != want {
			t.Errorf("Make(%s, %d) = %d messages, %d, want %d", sizes([][]api.Entry{l}), limit, len(x), int(e), int(want))
		}
	}
}

// What the tests take for granted: the bytes of their own entries.
func TestSizes(t *testing.T) {
	for n := 5; n <= 21; n++ {
		if size := msg.Size(out(1, n)); size != n {
			t.Errorf("out of %d bytes has %d", n, size)
		}
	}
	for what, c := range map[string]struct {
		e    api.Entry
		want int
	}{
		"updated":  {updated(1, ""), 11},
		"noticed":  {noticed(1, 1), 11},
		"greatest": {greatest(), 276},
	} {
		if n := msg.Size(c.e); n != c.want {
			t.Errorf("%s has %d bytes, want %d", what, n, c.want)
		}
	}
	for i, e := range wrongs() {
		if n := msg.Size(e); n != 0 {
			t.Errorf("wrong entry %d has %d bytes", i, n)
		}
	}
}

// P19.1: batches of as many as have together no more than the limit; the chapter's own example.
func TestCut(t *testing.T) {
	isCut(t, of(5, 5, 5, 5, 5), 12, 2, 2, 1)
	isCut(t, of(5, 5, 5, 5), 12, 2, 2)
	isCut(t, of(5, 5, 5, 5), 10, 2, 2)
	isCut(t, of(5, 5, 5, 5), 9, 1, 1, 1, 1)
	isCut(t, of(5, 5, 5, 5), 14, 2, 2)
	isCut(t, of(5, 5, 5, 5), 15, 3, 1)
	isCut(t, of(5, 5, 5, 5), 19, 3, 1)
	isCut(t, of(5, 5, 5, 5), 20, 4)
	isCut(t, of(5, 5, 5, 5), 4096, 4)
	// In order: the small one does not go ahead into the batch that has room for it.
	isCut(t, of(5, 21, 5), 12, 1, 1, 1)
	isCut(t, of(5, 7, 5, 8, 5), 12, 2, 1, 1, 1)
	isCut(t, of(7, 5, 8, 5, 5), 12, 2, 1, 2)
	isCut(t, of(10, 10, 10, 6, 6), 16, 1, 1, 2, 1)
	isCut(t, []api.Entry{updated(1, ""), noticed(2, 3), out(3, 5), updated(4, "x")}, 27, 3, 1)
	isCut(t, []api.Entry{updated(1, ""), noticed(2, 3), out(3, 5), updated(4, "x")}, 26, 2, 2)
	isCut(t, []api.Entry{updated(1, ""), noticed(2, 3), out(3, 5), updated(4, "x")}, 21, 1, 2, 1)
	// The same entry may come more than once.
	isCut(t, slices.Repeat([]api.Entry{out(1, 6)}, 5), 12, 2, 2, 1)
}

// P19.1, P19.4: an entry of more bytes than the limit is a batch of its own.
func TestTooGreatEntries(t *testing.T) {
	for _, limit := range []int{1, 2, 3, 4} {
		isCut(t, of(5), limit, 1)
		isCut(t, of(5, 5, 5), limit, 1, 1, 1)
	}
	isCut(t, of(9), 8, 1)
	isCut(t, of(5, 9, 5), 8, 1, 1, 1)
	isCut(t, of(9, 5, 5), 10, 1, 2)
	isCut(t, of(5, 5, 12, 5, 5, 21, 21, 5), 10, 2, 1, 2, 1, 1, 1)
	isCut(t, []api.Entry{greatest()}, 275, 1)
	isCut(t, []api.Entry{greatest()}, 276, 1)
	isCut(t, []api.Entry{greatest(), greatest()}, 551, 1, 1)
	isCut(t, []api.Entry{greatest(), greatest()}, 552, 2)
	isCut(t, []api.Entry{greatest(), out(1, 5)}, 275, 1, 1)
	isCut(t, []api.Entry{out(1, 5), greatest()}, 280, 1, 1)
	isCut(t, []api.Entry{out(1, 5), greatest()}, 281, 2)
	isCut(t, slices.Repeat([]api.Entry{greatest()}, 30), 4096, 14, 14, 2)
}

// P19.1: for no entries one batch without any.
func TestNoEntries(t *testing.T) {
	for _, l := range [][]api.Entry{nil, {}, outs(3, 5)[:0], outs(3, 5)[3:]} {
		for _, limit := range []int{1, 2, 12, 4095, 4096} {
			isCut(t, l, limit, 0)
		}
		isNotCut(t, api.ErrArg, l, least, -1, 0, 4097, most)
		if n := batch.Weigh(l); n != 0 {
			t.Errorf("nothing weighs %d", n)
		}
	}
}

// P19.1: which limits may be.
func TestLimits(t *testing.T) {
	l := of(5, 6, 5)
	isCut(t, l, 1, 1, 1, 1)
	isCut(t, l, 4096, 3)
	isNotCut(t, api.ErrArg, l, 0, -1, 4097, 8192, least, least+1, most, -4096, 1<<32+1, 1<<32+4096, -1<<32+12, 1<<63-2)
	for _, n := range edges() {
		allIs(t, l, n)
		allIs(t, of(5), n)
	}
	for n := -10; n <= 300; n++ {
		allIs(t, l, n)
	}
	for n := 4000; n <= 4200; n++ {
		cutIs(t, l, n)
	}
}

// P19.1: ErrArg of an entry that may not be, wherever it stands.
func TestWrongEntries(t *testing.T) {
	for _, w := range wrongs() {
		isNotCut(t, api.ErrArg, []api.Entry{w}, 1, 12, 4096, 0, 4097)
		isNotCut(t, api.ErrArg, []api.Entry{w, w}, 12)
		l := of(5, 6, 5, 21, 5)
		for i := range len(l) + 1 {
			isNotCut(t, api.ErrArg, slices.Insert(slices.Clone(l), i, w), 1, 12, 4096)
		}
	}
	// Far behind what fills the first batches.
	l := outs(4096, 5)
	for _, i := range []int{0, 1, 255, 256, 257, 4094, 4095} {
		x := slices.Clone(l)
		x[i] = api.Entry{}
		isNotCut(t, api.ErrArg, x, 4096)
	}
}

// P19.1: ErrBig of more than 4096 entries, behind ErrArg.
func TestTooManyEntries(t *testing.T) {
	l := outs(4098, 5)
	for _, limit := range []int{1, 12, 4096} {
		isNotCut(t, api.ErrBig, l[:4097], limit)
		isNotCut(t, api.ErrBig, l[1:], limit)
	}
	isNotCut(t, api.ErrBig, l, 4096)
	isNotCut(t, api.ErrArg, l, 0, 4097, -1, most)
	for _, i := range []int{0, 1, 4095, 4096, 4097} {
		x := slices.Clone(l)
		x[i] = noticed(1, 201)
		isNotCut(t, api.ErrArg, x, 1, 4096)
	}
	isCut(t, l[:4095], 1, slices.Repeat([]int{1}, 4095)...)
	isCut(t, l[:4096], 1, slices.Repeat([]int{1}, 4096)...)
	isCut(t, l[2:], 4096, slices.Repeat([]int{256}, 16)...)
	isCut(t, slices.Repeat([]api.Entry{greatest()}, 4096), 4096, append(slices.Repeat([]int{14}, 292), 8)...)
	isNotCut(t, api.ErrBig, slices.Repeat([]api.Entry{greatest()}, 4097), 4096)
}

// P19.1: no batch has more than 256 entries.
func TestManyInOne(t *testing.T) {
	isCut(t, outs(255, 5), 4096, 255)
	isCut(t, outs(256, 5), 4096, 256)
	isCut(t, outs(257, 5), 4096, 256, 1)
	isCut(t, outs(511, 5), 4096, 256, 255)
	isCut(t, outs(512, 5), 4096, 256, 256)
	isCut(t, outs(513, 5), 4096, 256, 256, 1)
	isCut(t, outs(600, 16), 4096, 256, 256, 88)
	isCut(t, outs(600, 17), 4096, 240, 240, 120)
	isCut(t, outs(600, 5), 1279, 255, 255, 90)
	isCut(t, outs(600, 5), 1280, 256, 256, 88)
	isCut(t, outs(600, 5), 1281, 256, 256, 88)
	isCut(t, outs(600, 5), 1284, 256, 256, 88)
	isCut(t, outs(600, 5), 1285, 256, 256, 88)
	isCut(t, outs(600, 5), 1286, 256, 256, 88)
	// What comes behind a batch of 256 is weighed anew.
	isCut(t, slices.Concat(outs(256, 5), of(5, 5, 21)), 1285, 256, 3)
	isCut(t, slices.Concat(outs(256, 5), []api.Entry{greatest(), greatest(), greatest(), greatest(), greatest()}), 1285, 256, 4, 1)
	isCut(t, slices.Concat(outs(255, 5), []api.Entry{greatest()}, of(5)), 1550, 255, 2)
	isCut(t, slices.Concat(outs(255, 5), []api.Entry{greatest()}, of(5)), 1551, 256, 1)
	for many := 250; many <= 262; many++ {
		for limit := 1270; limit <= 1290; limit++ {
			cutIs(t, outs(many, 5), limit)
			cutIs(t, outs(2*many, 5), limit)
		}
	}
}

// P19.1, P19.3, P19.4: all short lists of some sizes, with all limits that matter.
func TestAllShortLists(t *testing.T) {
	some := []int{5, 6, 9, 21}
	lists := [][]int{nil}
	for i := 0; i < len(lists); i++ {
		x := lists[i]
		for limit := -1; limit <= 48; limit++ {
			cutIs(t, of(x...), limit)
		}
		if len(x) == 4 {
			continue
		}
		for _, n := range some {
			lists = append(lists, append(slices.Clone(x), n))
		}
	}
	if len(lists) != 1+4+16+64+256 {
		t.Errorf("%d lists", len(lists))
	}
}

// P19.1, P19.3, P19.4: long lists of sizes that come and go.
func TestLongLists(t *testing.T) {
	for _, step := range []int{1, 3, 7, 11, 16} {
		var l []api.Entry
		for i := range 1500 {
			e := out(i%64+1, 5+i*step%17)
			switch i * step % 23 {
			case 0:
				e = updated(i%64+1, strings.Repeat("x", i%201))
			case 1:
				e = noticed(i%64+1, i%201)
			}
			l = append(l, e)
		}
		for _, limit := range []int{1, 5, 21, 22, 64, 211, 212, 256, 1280, 4095, 4096} {
			cutIs(t, l, limit)
		}
		makeIs(t, full(), l, 300)
		weighIs(t, l)
	}
}

// P19.1: Weigh is the sum of all Sizes.
func TestWeigh(t *testing.T) {
	cases := []struct {
		l    []api.Entry
		want int
	}{
		{nil, 0},
		{of(5), 5},
		{of(5, 5, 21, 6), 37},
		{[]api.Entry{updated(1, ""), noticed(1, 1), out(1, 5)}, 27},
		{[]api.Entry{greatest(), greatest()}, 552},
		{[]api.Entry{{}}, 0},
		{[]api.Entry{{}, out(1, 5), {}, out(1, 7), {Kind: api.EOut}}, 12},
		{[]api.Entry{noticed(1, 201), updated(1, "x"), updated(1, strings.Repeat("x", 201))}, 12},
		{outs(5000, 5), 25000},
		{slices.Repeat([]api.Entry{greatest()}, 10000), 2760000},
	}
	for _, c := range cases {
		weighIs(t, c.l)
		if n := batch.Weigh(c.l); n != c.want {
			t.Errorf("Weigh(%s) = %d, want %d", sizes([][]api.Entry{c.l}), n, c.want)
		}
	}
	weighIs(t, wrongs())
	for _, w := range wrongs() {
		if n := batch.Weigh([]api.Entry{out(1, 5), w, out(2, 6)}); n != 11 {
			t.Errorf("with one that may not be: %d, want 11", n)
		}
	}
}
