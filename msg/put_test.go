package msg_test

import (
	"slices"
	"strings"
	"testing"

	"lighterage/api"
	"lighterage/msg"
)

// ver is a version.
func ver(by, n int) api.Ver {
	return api.Ver{By: by, N: n}
}

// pair is an item and a version.
func pair(by, n, ownBy, ownN int) api.Pair {
	return api.Pair{Item: ver(by, n), Ver: ver(ownBy, ownN)}
}

// sid is a session's name.
func sid(by, epoch, n int) api.Sid {
	return api.Sid{By: by, Epoch: epoch, N: n}
}

// clause is a prefix and a range in one.
func clause(p string, lo, hi int) api.Clause {
	return api.Clause{Prefix: p, Range: api.Range{Lo: lo, Hi: hi}}
}

// vector is the vector of numbers, from replica 1 on.
func vector(l ...int) api.Vec {
	var v api.Vec
	copy(v[1:], l)
	return v
}

// at is the vector of one number, valid or not.
func at(by, n int) api.Vec {
	var v api.Vec
	v[by] = n
	return v
}

// edges are numbers about the limits, and such as are a valid one in fewer bits, or stand in other many bytes.
func edges() []int {
	return []int{least, least + 1, -1 << 32, -1, 0, 1, 2, 3, 4, 5, 63, 64, 65, 99, 100, 101, 127, 128, 255, 256, 257, 16384, 1<<20 - 1, 1 << 20, 1<<20 + 1, 1<<32 + 1, 1<<56 - 1, 1 << 56, most - 1, most}
}

// updated is an entry with an update.
func updated(data string) api.Entry {
	return api.Entry{Kind: api.EUpdate, U: api.Update{Item: ver(1, 2), Stamp: api.Stamp{Ver: ver(3, 4), Time: 5}, Path: "a", Data: data}}
}

// noticed is an entry with a meta.
func noticed(size int) api.Entry {
	return api.Entry{Kind: api.ENotice, M: api.Meta{Item: ver(1, 2), Stamp: api.Stamp{Ver: ver(3, 4), Time: 5}, Path: "a", Size: size}}
}

// outed is an entry with a pair.
func outed(p api.Pair) api.Entry {
	return api.Entry{Kind: api.EOut, Out: p}
}

// claims is knowledge with claims of either kind.
func claims() api.Know {
	return api.Know{
		Frags: []api.Frag{{F: []api.Clause{clause("a", 0, 9)}, V: vector(5), Not: []api.Ver{ver(1, 1), ver(2, 2)}}, {F: []api.Clause{clause("", 3, 4)}, V: vector(0, 3)}},
		Items: []api.Known{{Item: ver(2, 2), V: vector(7)}, {Item: ver(1, 1)}},
	}
}

// request is a request with something in all of its fields.
func request() api.Msg {
	return api.Msg{
		Kind: api.MRequest, Sid: sid(1, 2, 3), Up: true, F: []api.Clause{clause("a/b", 3, 4), clause("c", 0, 200)}, K: claims(),
		Held: []api.Pair{pair(1, 1, 9, 9), pair(1, 300, 2, 2), pair(2, 1, 1, 1)},
	}
}

// batch is a batch with something in all of its fields.
func batch() api.Msg {
	return api.Msg{
		Kind: api.MBatch, Sid: sid(1, 2, 3), Rid: sid(4, 5, 6), Seq: 7, Last: true,
		Entries: []api.Entry{updated("xy"), noticed(2), outed(pair(1, 1, 2, 2))}, V: vector(5), A: vector(0, 6), Not: []api.Ver{ver(7, 8), ver(8, 1)},
	}
}

// ack is an acknowledgement.
func ack() api.Msg {
	return api.Msg{Kind: api.MAck, Sid: sid(1, 1, 1), Rid: sid(2, 1, 1)}
}

// refuse is a refusal.
func refuse() api.Msg {
	return api.Msg{Kind: api.MRefuse, Sid: sid(1, 2, 3), Code: 9}
}

// all are messages of all kinds, with much in them, and with little.
func all() []api.Msg {
	return []api.Msg{
		request(), batch(), ack(), refuse(),
		{Kind: api.MRequest, Sid: sid(1, 1, 1)},
		{Kind: api.MBatch, Sid: sid(1, 1, 1), Rid: sid(1, 1, 1)},
	}
}

// edited is a message that is another one in something.
func edited(m api.Msg, edit func(*api.Msg)) api.Msg {
	// New lists, so that the edit is one of this message alone.
	m.F, m.Held, m.Entries, m.Not = slices.Clone(m.F), slices.Clone(m.Held), slices.Clone(m.Entries), slices.Clone(m.Not)
	m.K.Items = slices.Clone(m.K.Items)
	m.K.Frags = slices.Clone(m.K.Frags)
	for i, x := range m.K.Frags {
		m.K.Frags[i].F, m.K.Frags[i].Not = slices.Clone(x.F), slices.Clone(x.Not)
	}
	edit(&m)
	return m
}

// P18.1: requests as bytes.
func TestRequest(t *testing.T) {
	isTold(t, api.Msg{Kind: api.MRequest, Sid: sid(1, 1, 1)}, "\x01\x01\x01\x01\x00\x01\x00\x04\x01\x00\x01\x00\x00")
	isTold(t, api.Msg{Kind: api.MRequest, Sid: sid(1, 2, 3), Up: true}, "\x01\x01\x02\x03\x01\x01\x00\x04\x01\x00\x01\x00\x00")
	isTold(t, api.Msg{Kind: api.MRequest, Sid: sid(64, 300, most), F: []api.Clause{clause("a/b", 3, 4), clause("", 0, 200)}},
		"\x01\x40\xac\x02"+strings.Repeat("\xff", 8)+"\x7f\x00\x0d\x02\x06\x03a/b\x03\x04\x04\x00\x00\xc8\x01\x04\x01\x00\x01\x00\x00")
	isTold(t, api.Msg{Kind: api.MRequest, Sid: sid(1, 2, 3), K: api.Know{Items: []api.Known{{Item: ver(2, 3), V: vector(5)}}}},
		"\x01\x01\x02\x03\x00\x01\x00\x0c\x01\x00\x09\x01\x07\x02\x03\x04\x01\x02\x01\x05\x00")
	isTold(t, api.Msg{Kind: api.MRequest, Sid: sid(1, 2, 3), Held: []api.Pair{pair(1, 2, 3, 4), pair(1, 300, 64, most)}},
		"\x01\x01\x02\x03\x00\x01\x00\x04\x01\x00\x01\x00\x02\x01\x02\x03\x04\x01\xac\x02\x40"+strings.Repeat("\xff", 8)+"\x7f")
	isTold(t, request(), "\x01\x01\x02\x03\x01"+
		"\x0e\x02\x06\x03a/b\x03\x04\x05\x01c\x00\xc8\x01"+
		"\x34\x24\x02\x14\x06\x01\x04\x01a\x00\x09\x04\x01\x02\x01\x05\x07\x02\x02\x01\x01\x02\x02\x02\x0d\x05\x01\x03\x00\x03\x04\x04\x01\x02\x02\x03\x01\x00"+
		"\x0e\x02\x07\x02\x02\x04\x01\x02\x01\x07\x04\x01\x01\x01\x00"+
		"\x03\x01\x01\x09\x09\x01\xac\x02\x02\x02\x02\x01\x01\x01")
}

// P18.1: batches as bytes.
func TestBatch(t *testing.T) {
	ids := "\x02\x01\x02\x03\x04\x05\x06"
	m := api.Msg{Kind: api.MBatch, Sid: sid(1, 2, 3), Rid: sid(4, 5, 6)}
	isTold(t, m, ids+"\x00\x00\x00\x01\x00\x01\x00\x01\x00")
	m.Seq, m.Last = 1<<20, true
	isTold(t, m, ids+"\x80\x80\x40\x01\x00\x01\x00\x01\x00\x01\x00")
	m.Seq, m.Last = 0, false
	m.Entries = []api.Entry{updated("xy")}
	isTold(t, m, ids+"\x00\x00\x01\x01\x0b\x01\x02\x03\x04\x05\x01a\x02xy\x00\x01\x00\x01\x00\x01\x00")
	m.Entries = []api.Entry{noticed(2)}
	isTold(t, m, ids+"\x00\x00\x01\x02\x09\x01\x02\x03\x04\x05\x01a\x02\x00\x01\x00\x01\x00\x01\x00")
	m.Entries = []api.Entry{outed(pair(1, 1, 2, 300))}
	isTold(t, m, ids+"\x00\x00\x01\x03\x01\x01\x02\xac\x02\x01\x00\x01\x00\x01\x00")
	// In the order in which they stand, and as often.
	m.Entries = []api.Entry{outed(pair(2, 2, 1, 1)), noticed(2), outed(pair(2, 2, 1, 1)), outed(pair(1, 1, 1, 1))}
	isTold(t, m, ids+"\x00\x00\x04\x03\x02\x02\x01\x01\x02\x09\x01\x02\x03\x04\x05\x01a\x02\x00\x03\x02\x02\x01\x01\x03\x01\x01\x01\x01\x01\x00\x01\x00\x01\x00")
	m.Entries = nil
	m.V, m.A, m.Not = vector(5), vector(0, 6), []api.Ver{ver(7, 8), ver(8, 1)}
	isTold(t, m, ids+"\x00\x00\x00\x04\x01\x02\x01\x05\x04\x01\x02\x02\x06\x07\x02\x02\x07\x08\x02\x08\x01")
	isTold(t, batch(), ids+"\x07\x01\x03\x01\x0b\x01\x02\x03\x04\x05\x01a\x02xy\x00\x02\x09\x01\x02\x03\x04\x05\x01a\x02\x00\x03\x01\x01\x02\x02"+
		"\x04\x01\x02\x01\x05\x04\x01\x02\x02\x06\x07\x02\x02\x07\x08\x02\x08\x01")
}

// P18.1: acknowledgements and refusals as bytes.
func TestAckAndRefuse(t *testing.T) {
	isTold(t, ack(), "\x03\x01\x01\x01\x02\x01\x01")
	isTold(t, api.Msg{Kind: api.MAck, Sid: sid(1, 2, 3), Rid: sid(4, 5, 300)}, "\x03\x01\x02\x03\x04\x05\xac\x02")
	isTold(t, refuse(), "\x04\x01\x02\x03\x09")
	isTold(t, api.Msg{Kind: api.MRefuse, Sid: sid(1, 2, 3), Code: 100}, "\x04\x01\x02\x03\x64")
	// The record as a whole: how many bytes, these, and their sum.
	if s, e := msg.Put(ack()); len(s) != 12 || s[:8] != "\x07\x03\x01\x01\x01\x02\x01\x01" || e != api.OK {
		t.Errorf("Put of an acknowledgement: %x, %d", s, int(e))
	}
}

// P18.1: the kind is one of four.
func TestKinds(t *testing.T) {
	for _, kind := range append(edges(), 6, 7) {
		for _, m := range all() {
			m.Kind = kind
			putIs(t, m)
			getIs(t, record(told(m)))
		}
		isWrong(t, api.ErrArg, api.Msg{Kind: kind})
		if kind < 1 || kind > 4 {
			isWrong(t, api.ErrArg, api.Msg{Kind: kind, Sid: sid(1, 1, 1)})
		}
	}
	isWrong(t, api.ErrArg, api.Msg{}, api.Msg{Sid: sid(1, 1, 1)})
}

// places are all numbers of a message, where they stand.
func places(m *api.Msg) []*int {
	l := []*int{&m.Kind, &m.Sid.By, &m.Sid.Epoch, &m.Sid.N, &m.Rid.By, &m.Rid.Epoch, &m.Rid.N, &m.Seq, &m.Code}
	for i := range m.F {
		l = append(l, &m.F[i].Lo, &m.F[i].Hi)
	}
	for i := range m.K.Frags {
		l = append(l, &m.K.Frags[i].V[0], &m.K.Frags[i].V[1])
	}
	for i := range m.K.Items {
		l = append(l, &m.K.Items[i].Item.By, &m.K.Items[i].Item.N, &m.K.Items[i].V[64])
	}
	for i := range m.Held {
		p := &m.Held[i]
		l = append(l, &p.Item.By, &p.Item.N, &p.Ver.By, &p.Ver.N)
	}
	for i := range m.Entries {
		e := &m.Entries[i]
		l = append(l, &e.Kind, &e.U.Item.By, &e.U.Item.N, &e.U.By, &e.U.N, &e.U.Time)
		l = append(l, &e.M.Item.By, &e.M.Item.N, &e.M.By, &e.M.N, &e.M.Time, &e.M.Size)
		l = append(l, &e.Out.Item.By, &e.Out.Item.N, &e.Out.Ver.By, &e.Out.Ver.N)
	}
	for i := range m.Not {
		l = append(l, &m.Not[i].By, &m.Not[i].N)
	}
	for _, i := range []int{0, 1, 2, 63, 64} {
		l = append(l, &m.V[i], &m.A[i])
	}
	return l
}

// P18.1, P18.2, P18.4, R5: numbers about all limits at each place.
func TestEdges(t *testing.T) {
	for _, m := range all() {
		x := edited(m, func(*api.Msg) {})
		for _, place := range places(&x) {
			was := *place
			for _, n := range edges() {
				*place = n
				putIs(t, x)
				getIs(t, record(told(x)))
			}
			*place = was
		}
	}
}

// P18.1: names of sessions, numbers of batches and codes, at their limits and beyond.
func TestLimits(t *testing.T) {
	for _, m := range []api.Msg{request(), batch(), ack(), refuse()} {
		for _, s := range []api.Sid{sid(1, 1, 1), sid(64, 1, 1), sid(1, most, 1), sid(1, 1, most), sid(64, most, most)} {
			m.Sid = s
			if e := putIs(t, m); e != api.OK {
				t.Errorf("Sid %v of kind %d: the model tells %d", s, m.Kind, int(e))
			}
		}
		for _, s := range []api.Sid{{}, sid(0, 1, 1), sid(65, 1, 1), sid(-1, 1, 1), sid(1, 0, 1), sid(1, -1, 1), sid(1, 1, 0), sid(1, 1, -1), sid(least, least, least)} {
			m.Sid = s
			isWrong(t, api.ErrArg, m)
			if m.Kind == api.MBatch || m.Kind == api.MAck {
				m.Sid, m.Rid = sid(1, 1, 1), s
				isWrong(t, api.ErrArg, m)
				m.Rid = sid(1, 1, 1)
			}
		}
	}
	for _, n := range []int{0, 1, 1<<20 - 1, 1 << 20} {
		if e := putIs(t, edited(batch(), func(m *api.Msg) { m.Seq = n })); e != api.OK {
			t.Errorf("Seq %d: the model tells %d", n, int(e))
		}
	}
	for _, n := range []int{-1, 1<<20 + 1, least, most} {
		isWrong(t, api.ErrArg, edited(batch(), func(m *api.Msg) { m.Seq = n }))
	}
	for code := -3; code < 110; code++ {
		m := edited(refuse(), func(m *api.Msg) { m.Code = code })
		if e := putIs(t, m); (e == api.OK) != (1 <= code && code <= 100) {
			t.Errorf("Code %d: the model tells %d", code, int(e))
		}
	}
}

// edits put something into one field; of some it is a list without elements.
func edits() []func(*api.Msg) {
	return []func(*api.Msg){
		func(m *api.Msg) { m.Rid = sid(2, 2, 2) },
		func(m *api.Msg) { m.Rid.By = 1 },
		func(m *api.Msg) { m.Rid.Epoch = 1 },
		func(m *api.Msg) { m.Rid.N = -1 },
		func(m *api.Msg) { m.Up = true },
		func(m *api.Msg) { m.F = []api.Clause{clause("a", 0, 9)} },
		func(m *api.Msg) { m.F = []api.Clause{{}} },
		func(m *api.Msg) { m.F = []api.Clause{} },
		func(m *api.Msg) { m.K = claims() },
		func(m *api.Msg) { m.K.Frags = []api.Frag{{}} },
		func(m *api.Msg) { m.K.Items = []api.Known{{Item: ver(1, 1)}} },
		func(m *api.Msg) { m.K.Items = []api.Known{{}} },
		func(m *api.Msg) { m.K = api.Know{Frags: []api.Frag{}, Items: []api.Known{}} },
		func(m *api.Msg) { m.K = api.Know{Frags: []api.Frag{{F: []api.Clause{}, Not: []api.Ver{}}}} },
		func(m *api.Msg) { m.Held = []api.Pair{pair(1, 1, 1, 1)} },
		func(m *api.Msg) { m.Held = []api.Pair{{}} },
		func(m *api.Msg) { m.Held = []api.Pair{} },
		func(m *api.Msg) { m.Seq = 1 },
		func(m *api.Msg) { m.Seq = -1 },
		func(m *api.Msg) { m.Last = true },
		func(m *api.Msg) { m.Entries = []api.Entry{outed(pair(1, 1, 1, 1))} },
		func(m *api.Msg) { m.Entries = []api.Entry{{}} },
		func(m *api.Msg) { m.Entries = []api.Entry{} },
		func(m *api.Msg) { m.V = vector(1) },
		func(m *api.Msg) { m.V[0] = 1 },
		func(m *api.Msg) { m.V[64] = -1 },
		func(m *api.Msg) { m.A = vector(1) },
		func(m *api.Msg) { m.A[0] = -1 },
		func(m *api.Msg) { m.A[64] = 1 },
		func(m *api.Msg) { m.Not = []api.Ver{ver(1, 1)} },
		func(m *api.Msg) { m.Not = []api.Ver{{}} },
		func(m *api.Msg) { m.Not = []api.Ver{} },
		func(m *api.Msg) { m.Code = 1 },
		func(m *api.Msg) { m.Code = -1 },
	}
}

// field is a field, which messages of some kinds have, with something in it that may be there.
type field struct {
	name  string
	kinds []int
	fill  func(*api.Msg)
}

// fields are all fields that not every kind has.
func fields() []field {
	return []field{
		{"Rid", []int{2, 3}, func(m *api.Msg) { m.Rid = sid(2, 2, 2) }},
		{"Up", []int{1}, func(m *api.Msg) { m.Up = true }},
		{"F", []int{1}, func(m *api.Msg) { m.F = []api.Clause{clause("", 0, 0)} }},
		{"K.Frags", []int{1}, func(m *api.Msg) { m.K.Frags = []api.Frag{{}} }},
		{"K.Items", []int{1}, func(m *api.Msg) { m.K.Items = []api.Known{{Item: ver(1, 1)}} }},
		{"Held", []int{1}, func(m *api.Msg) { m.Held = []api.Pair{pair(1, 1, 1, 1)} }},
		{"Seq", []int{2}, func(m *api.Msg) { m.Seq = 1 }},
		{"Last", []int{2}, func(m *api.Msg) { m.Last = true }},
		{"Entries", []int{2}, func(m *api.Msg) { m.Entries = []api.Entry{outed(pair(1, 1, 1, 1))} }},
		{"V", []int{2}, func(m *api.Msg) { m.V[64] = 1 }},
		{"A", []int{2}, func(m *api.Msg) { m.A[64] = 1 }},
		{"Not", []int{2}, func(m *api.Msg) { m.Not = []api.Ver{ver(1, 1)} }},
		{"Code", []int{4}, func(m *api.Msg) { m.Code = 1 }},
	}
}

// P18.1: all fields that its kind does not have are zero, and lists without elements are.
func TestFieldsOfOthers(t *testing.T) {
	for _, m := range all() {
		for _, f := range fields() {
			want := api.ErrArg
			if slices.Contains(f.kinds, m.Kind) {
				want = api.OK
			}
			x := edited(m, f.fill)
			if e := putIs(t, x); e != want || msg.Check(x) != want {
				t.Errorf("kind %d with %s: %d, of the model %d, want %d", m.Kind, f.name, int(msg.Check(x)), int(e), int(want))
			}
		}
		for _, one := range edits() {
			for _, two := range edits() {
				x := edited(edited(m, one), two)
				putIs(t, x)
				getIs(t, record(told(x)))
			}
		}
		none := edited(m, func(m *api.Msg) {
			m.F, m.Held, m.Entries, m.Not = append([]api.Clause{}, m.F...), append([]api.Pair{}, m.Held...), append([]api.Entry{}, m.Entries...), append([]api.Ver{}, m.Not...)
			m.K.Frags, m.K.Items = append([]api.Frag{}, m.K.Frags...), append([]api.Known{}, m.K.Items...)
		})
		if e := putIs(t, none); e != api.OK || none.F == nil || none.K.Items == nil {
			t.Errorf("%s with lists without elements: %d", shown(none), int(e))
		}
	}
}

// someHeld are pairs of so many items that rise.
func someHeld(many int) []api.Pair {
	var l []api.Pair
	for i := range many {
		l = append(l, pair(1+i/50, 1+i%50, 1+i%64, 1000-i))
	}
	return l
}

// P18.1: pairs are at most 256, and their items rise.
func TestHeld(t *testing.T) {
	m := request()
	some := []api.Ver{ver(1, 1), ver(1, 2), ver(2, 1), ver(2, 2), ver(64, most), ver(0, 1), ver(65, 1), ver(1, 0)}
	for _, a := range some {
		for _, b := range some {
			m.Held = []api.Pair{{Item: a, Ver: b}}
			putIs(t, m)
			for _, c := range some {
				// The versions say nothing of the order.
				m.Held = []api.Pair{{Item: a, Ver: ver(2, 2)}, {Item: b, Ver: ver(1, 1)}, {Item: c, Ver: ver(2, 2)}}
				putIs(t, m)
				getIs(t, record(told(m)))
			}
		}
	}
	m.Held = []api.Pair{pair(1, 1, 1, 1), pair(1, 1, 1, 2)}
	isWrong(t, api.ErrArg, m)
	for _, many := range []int{1, 127, 128, 255, 256, 257, 258, 512} {
		m.Held = someHeld(many)
		want := api.OK
		if many > 256 {
			want = api.ErrArg
		}
		if e := putIs(t, m); e != want {
			t.Errorf("%d pairs: the model tells %d", many, int(e))
		}
		if e := getIs(t, record(told(m))); (e == api.OK) != (many <= 256) {
			t.Errorf("bytes of %d pairs: the model tells %d", many, int(e))
		}
	}
	// Each one is looked at.
	m.Held = someHeld(256)
	for i := range m.Held {
		was := m.Held[i]
		for _, p := range []api.Pair{{}, {Item: was.Item}, {Item: was.Item, Ver: ver(65, 1)}, {Item: ver(1, 0), Ver: was.Ver}, {Item: m.Held[(i+1)%256].Item, Ver: was.Ver}} {
			m.Held[i] = p
			isWrong(t, api.ErrArg, m)
		}
		m.Held[i] = was
	}
}

// P18.1: entries are at most 256, each of which is looked at.
func TestManyEntries(t *testing.T) {
	kinds := []api.Entry{updated("xy"), noticed(2), outed(pair(1, 1, 2, 2))}
	for _, many := range []int{1, 127, 128, 255, 256, 257, 258, 512} {
		for _, x := range kinds {
			m := edited(batch(), func(m *api.Msg) { m.Entries = slices.Repeat([]api.Entry{x}, many) })
			want := api.OK
			if many > 256 {
				want = api.ErrArg
			}
			if e := putIs(t, m); e != want {
				t.Errorf("%d entries: the model tells %d", many, int(e))
			}
			if e := getIs(t, record(told(m))); (e == api.OK) != (many <= 256) {
				t.Errorf("bytes of %d entries: the model tells %d", many, int(e))
			}
		}
	}
	m := edited(batch(), func(m *api.Msg) { m.Entries = slices.Repeat(kinds, 86)[:256] })
	for i := range m.Entries {
		was := m.Entries[i]
		for _, x := range []api.Entry{{}, {Kind: was.Kind}, {Kind: 4, U: was.U, M: was.M, Out: was.Out}, {Kind: was.Kind%3 + 1, U: was.U, M: was.M, Out: was.Out}} {
			m.Entries[i] = x
			isWrong(t, api.ErrArg, m)
		}
		m.Entries[i] = was
	}
}

// P18.1: filters, knowledge, vectors and items are valid as pack says.
func TestParts(t *testing.T) {
	for _, many := range []int{8, 9, 63, 64, 65, 66, 100} {
		want := api.OK
		if many > 64 {
			want = api.ErrArg
		}
		m := edited(request(), func(m *api.Msg) { m.F = slices.Repeat([]api.Clause{clause("a", 0, 9)}, many) })
		if e := putIs(t, m); e != want {
			t.Errorf("%d clauses: the model tells %d", many, int(e))
		}
		m = edited(request(), func(m *api.Msg) { m.K.Frags = slices.Repeat(m.K.Frags[:1], many) })
		if e := putIs(t, m); e != want {
			t.Errorf("%d whole claims: the model tells %d", many, int(e))
		}
	}
	for _, edit := range []func(*api.Msg){
		func(m *api.Msg) { m.F[1].Prefix = "/" },
		func(m *api.Msg) { m.F[0].Hi = 2 },
		func(m *api.Msg) { m.K.Frags[1].F[0].Prefix = "a/" },
		func(m *api.Msg) { m.K.Frags[0].V[0] = 1 },
		func(m *api.Msg) { m.K.Frags[0].Not[1] = ver(1, 1) },
		func(m *api.Msg) { m.K.Items[1].Item.By = 0 },
		func(m *api.Msg) { m.K.Items = slices.Repeat(m.K.Items, 2049) },
	} {
		isWrong(t, api.ErrArg, edited(request(), edit))
	}
	for _, edit := range []func(*api.Msg){
		func(m *api.Msg) { m.V[0] = 1 },
		func(m *api.Msg) { m.V[64] = -1 },
		func(m *api.Msg) { m.A[0] = 1 },
		func(m *api.Msg) { m.A[64] = -1 },
		func(m *api.Msg) { m.Not[0] = ver(8, 1) },
		func(m *api.Msg) { m.Not[0] = ver(8, 2) },
		func(m *api.Msg) { m.Not[1].By = 65 },
		func(m *api.Msg) { m.Not[0].N = 0 },
	} {
		isWrong(t, api.ErrArg, edited(batch(), edit))
	}
}
