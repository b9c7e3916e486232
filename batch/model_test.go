package batch_test

import (
	"fmt"
	"math"
	"reflect"
	"slices"
	"strings"
	"testing"

	"lighterage/api"
	"lighterage/batch"
	"lighterage/msg"
)

const (
	least = math.MinInt
	most  = math.MaxInt
)

// edges are numbers about the limits, and such as are a valid one in fewer bits.
func edges() []int {
	return []int{least, least + 1, -1 << 32, -1, 0, 1, 2, 64, 65, 255, 256, 257, 4095, 4096, 4097, 8192, 1 << 32, 1<<32 + 1, 1<<32 + 4096, most - 1, most}
}

// ver is a version.
func ver(by, n int) api.Ver {
	return api.Ver{By: by, N: n}
}

// vector is the vector of numbers, from replica 1 on.
func vector(l ...int) api.Vec {
	var v api.Vec
	copy(v[1:], l)
	return v
}

// out is an entry of from 5 to 21 bytes, of an item of this replica.
func out(by, bytes int) api.Entry {
	more := bytes - 5
	one := min(more, 8)
	p := api.Pair{Item: ver(by, 1<<(7*one)), Ver: ver(2, 1<<(7*(more-one)))}
	return api.Entry{Kind: api.EOut, Out: p}
}

// updated is an entry with an update of such data.
func updated(by int, data string) api.Entry {
	return api.Entry{Kind: api.EUpdate, U: api.Update{Item: ver(by, 2), Stamp: api.Stamp{Ver: ver(3, 4), Time: 5}, Path: "a", Data: data}}
}

// noticed is an entry with a meta of such a size.
func noticed(by, size int) api.Entry {
	return api.Entry{Kind: api.ENotice, M: api.Meta{Item: ver(by, 2), Stamp: api.Stamp{Ver: ver(3, 4), Time: 5}, Path: "a", Size: size}}
}

// greatest is an entry of 276 bytes, as no entry has more.
func greatest() api.Entry {
	return api.Entry{Kind: api.EUpdate, U: api.Update{Item: ver(64, most), Stamp: api.Stamp{Ver: ver(64, most), Time: most}, Path: strings.Repeat("aaaaaaaaa/", 3) + "aaaaaaaaaa", Data: strings.Repeat("x", 200)}}
}

// outs are so many entries of so many bytes each, of items of their own.
func outs(many, bytes int) []api.Entry {
	var l []api.Entry
	for i := range many {
		e := out(i%64+1, bytes)
		e.Out.Ver.By = i/64%64 + 1
		l = append(l, e)
	}
	return l
}

// wrongs are entries that may not be.
func wrongs() []api.Entry {
	edited := func(e api.Entry, edit func(*api.Entry)) api.Entry {
		edit(&e)
		return e
	}
	return []api.Entry{
		{},
		{Kind: api.EUpdate},
		{Kind: api.ENotice},
		{Kind: api.EOut},
		edited(out(1, 5), func(e *api.Entry) { e.Kind = 0 }),
		edited(out(1, 5), func(e *api.Entry) { e.Kind = 4 }),
		edited(out(1, 5), func(e *api.Entry) { e.Kind = -1 }),
		edited(out(1, 5), func(e *api.Entry) { e.Kind = 1<<32 + 3 }),
		edited(out(1, 5), func(e *api.Entry) { e.Kind = most }),
		edited(out(1, 5), func(e *api.Entry) { e.Kind = api.EUpdate }),
		edited(out(1, 5), func(e *api.Entry) { e.Out.Item.By = 65 }),
		edited(out(1, 5), func(e *api.Entry) { e.Out.Ver.N = least }),
		edited(out(1, 5), func(e *api.Entry) { e.U.Dead = true }),
		edited(out(1, 5), func(e *api.Entry) { e.M = noticed(1, 1).M }),
		edited(updated(1, "x"), func(e *api.Entry) { e.Kind = api.EOut }),
		edited(updated(1, "x"), func(e *api.Entry) { e.Out = out(1, 5).Out }),
		edited(updated(1, "x"), func(e *api.Entry) { e.M.Size = 1 }),
		edited(updated(1, "x"), func(e *api.Entry) { e.U.Dead = true }),
		edited(updated(1, "x"), func(e *api.Entry) { e.U.Path = "A" }),
		edited(updated(1, "x"), func(e *api.Entry) { e.U.Time = 0 }),
		updated(1, strings.Repeat("x", 201)),
		noticed(1, 201),
		noticed(1, -1),
		noticed(0, 1),
		edited(noticed(1, 1), func(e *api.Entry) { e.Kind = api.EUpdate }),
		edited(noticed(1, 1), func(e *api.Entry) { e.U.Data = "x" }),
	}
}

// full is a batch's message whose fields all are something.
func full() api.Msg {
	return api.Msg{
		Kind: api.MBatch,
		Sid:  api.Sid{By: 1, Epoch: 2, N: 3},
		Rid:  api.Sid{By: 4, Epoch: 5, N: 6},
		V:    vector(1, 0, 3),
		A:    vector(0, 7),
		Not:  []api.Ver{ver(1, 1), ver(2, 300)},
	}
}

// whole is full, and more that no message of a batch has, or has otherwise.
func whole() api.Msg {
	m := full()
	m.Kind, m.Up, m.Seq, m.Last, m.Code = api.MRequest, true, 77, true, 9
	m.F = []api.Clause{{Prefix: "a", Range: api.Range{Lo: 1, Hi: 2}}}
	m.K = api.Know{Frags: []api.Frag{{V: vector(1)}}, Items: []api.Known{{Item: ver(1, 1)}}}
	m.Held = []api.Pair{out(1, 5).Out}
	m.Entries = []api.Entry{noticed(9, 9), updated(9, "other")}
	return m
}

// msgs are messages that batches are made of.
func msgs() []api.Msg {
	odd := full()
	odd.Sid, odd.Rid = api.Sid{By: least, Epoch: most, N: -1}, api.Sid{By: 65}
	odd.V, odd.A[0], odd.Not = vector(-1, least), most, []api.Ver{ver(9, 9), ver(-1, 0), ver(9, 9)}
	return []api.Msg{{}, full(), whole(), odd, {Last: true}, {Seq: -1, Kind: -1}, {Not: []api.Ver{}}}
}

// modelCut is what the document says of Cut.
func modelCut(l []api.Entry, limit int) ([][]api.Entry, api.Errno) {
	if limit < 1 || limit > 4096 {
		return nil, api.ErrArg
	}
	for _, e := range l {
		if msg.Size(e) == 0 {
			return nil, api.ErrArg
		}
	}
	if len(l) > 4096 {
		return nil, api.ErrBig
	}
	batches := [][]api.Entry{{}}
	bytes := 0
	for _, e := range l {
		last := len(batches) - 1
		many, size := len(batches[last]), msg.Size(e)
		if many > 0 && bytes+size > limit || many == 256 {
			batches, bytes, last = append(batches, nil), 0, last+1
		}
		batches[last], bytes = append(batches[last], e), bytes+size
	}
	return batches, api.OK
}

// modelMake is what the document says of Make.
func modelMake(m api.Msg, l []api.Entry, limit int) ([]api.Msg, api.Errno) {
	batches, e := modelCut(l, limit)
	if e != api.OK {
		return nil, e
	}
	var made []api.Msg
	for i, b := range batches {
		x := api.Msg{Kind: 2, Sid: m.Sid, Rid: m.Rid, Seq: i, Entries: b}
		if i+1 == len(batches) {
			x.Last, x.V, x.A, x.Not = true, m.V, m.A, m.Not
		}
		made = append(made, x)
	}
	return made, api.OK
}

// modelWeigh is what the document says of Weigh.
func modelWeigh(l []api.Entry) int {
	if len(l) == 0 {
		return 0
	}
	return modelWeigh(l[:len(l)/2]) + msg.Size(l[len(l)/2]) + modelWeigh(l[len(l)/2+1:])
}

// sameMsg tells whether two messages are equal in all that they have, lists without elements being nil or empty.
func sameMsg(a, b api.Msg) bool {
	plain := func(m api.Msg) api.Msg {
		if len(m.Entries) == 0 {
			m.Entries = nil
		}
		if len(m.Not) == 0 {
			m.Not = nil
		}
		return m
	}
	return reflect.DeepEqual(plain(a), plain(b))
}

// sameBatches tells whether two lists of batches are the same.
func sameBatches(a, b [][]api.Entry) bool {
	return slices.EqualFunc(a, b, func(x, y []api.Entry) bool { return slices.Equal(x, y) })
}

// sizes are those of the entries of batches, for what is told of them.
func sizes(batches [][]api.Entry) string {
	l := make([][]int, len(batches))
	for i, b := range batches {
		for _, e := range b {
			l[i] = append(l[i], msg.Size(e))
		}
	}
	s := fmt.Sprint(l)
	return s[:min(len(s), 300)]
}

// cutIs holds Cut against the model, and the batches against what is promised of them; it tells the error.
func cutIs(t *testing.T, l []api.Entry, limit int) api.Errno {
	t.Helper()
	want, wantE := modelCut(l, limit)
	// Twice, as it hangs on nothing that was asked ahead of it.
	for range 2 {
		x, e := batch.Cut(l, limit)
		if e != wantE || !sameBatches(x, want) {
			t.Errorf("Cut(%s, %d) = %s, %d, want %s, %d", sizes([][]api.Entry{l}), limit, sizes(x), int(e), sizes(want), int(wantE))
		}
		if e == api.OK {
			isComplete(t, x, l)
			isBounded(t, x, limit)
		}
	}
	return wantE
}

// isComplete is P19.3.
func isComplete(t *testing.T, batches [][]api.Entry, l []api.Entry) {
	t.Helper()
	var all []api.Entry
	for _, b := range batches {
		all = append(all, b...)
	}
	if !slices.Equal(all, l) {
		t.Errorf("%s are not all of %s", sizes(batches), sizes([][]api.Entry{l}))
	}
}

// isBounded is P19.4.
func isBounded(t *testing.T, batches [][]api.Entry, limit int) {
	t.Helper()
	for i, b := range batches {
		if batch.Weigh(b) > limit && len(b) != 1 || len(b) > 256 {
			t.Errorf("batch %d of %s is beyond %d", i, sizes(batches), limit)
		}
		if len(b) == 0 && len(batches) != 1 {
			t.Errorf("batch %d of %s is of nothing", i, sizes(batches))
		}
		if i == 0 {
			continue
		}
		both := slices.Concat(batches[i-1], b)
		if batch.Weigh(both) <= limit && len(both) <= 256 {
			t.Errorf("batches %d and %d of %s fit into one of %d", i-1, i, sizes(batches), limit)
		}
	}
}

// makeIs holds Make against the model; it tells the error.
func makeIs(t *testing.T, m api.Msg, l []api.Entry, limit int) api.Errno {
	t.Helper()
	want, wantE := modelMake(m, l, limit)
	for range 2 {
		x, e := batch.Make(m, l, limit)
		if e != wantE || !slices.EqualFunc(x, want, sameMsg) {
			t.Errorf("Make(%s, %d) = %d messages, %d, want %d, %d", sizes([][]api.Entry{l}), limit, len(x), int(e), len(want), int(wantE))
		}
	}
	return wantE
}

// weighIs holds Weigh against the model.
func weighIs(t *testing.T, l []api.Entry) {
	t.Helper()
	want := modelWeigh(l)
	for range 2 {
		if n := batch.Weigh(l); n != want {
			t.Errorf("Weigh(%s) = %d, want %d", sizes([][]api.Entry{l}), n, want)
		}
	}
}

// allIs holds all calls against the model; it tells the error.
func allIs(t *testing.T, l []api.Entry, limit int) api.Errno {
	t.Helper()
	weighIs(t, l)
	e := cutIs(t, l, limit)
	for i, m := range msgs() {
		// Of many entries with some messages alone, as they take long.
		if len(l) > 600 && i > 1 {
			break
		}
		if made := makeIs(t, m, l, limit); made != e {
			t.Errorf("Make is %d, and Cut %d", int(made), int(e))
		}
	}
	return e
}
