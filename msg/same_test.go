package msg_test

import (
	"strings"
	"testing"

	"lighterage/api"
	"lighterage/msg"
)

// P18.3: how many bytes an entry has.
func TestSize(t *testing.T) {
	for _, x := range []struct {
		e    api.Entry
		want int
	}{
		{outed(pair(1, 1, 2, 2)), 5},
		{outed(pair(1, 127, 64, 128)), 6},
		{outed(pair(64, most, 64, most)), 21},
		{updated(""), 11},
		{updated("xy"), 13},
		{updated(strings.Repeat("x", 117)), 128},
		{updated(strings.Repeat("x", 118)), 129},
		{updated(strings.Repeat("x", 119)), 131},
		{updated(strings.Repeat("x", 127)), 139},
		{updated(strings.Repeat("x", 128)), 141},
		{updated(strings.Repeat("x", 200)), 213},
		{updated(strings.Repeat("x", 201)), 0},
		{noticed(0), 11},
		{noticed(127), 11},
		{noticed(128), 12},
		{noticed(200), 12},
		{noticed(201), 0},
		{noticed(-1), 0},
		{api.Entry{}, 0},
		{api.Entry{Kind: api.EUpdate}, 0},
		{api.Entry{Kind: api.ENotice}, 0},
		{api.Entry{Kind: api.EOut}, 0},
		{outed(pair(0, 1, 1, 1)), 0},
		{outed(pair(1, 1, 1, 0)), 0},
		{outed(pair(65, 1, 1, 1)), 0},
	} {
		sizeIs(t, x.e)
		if n := msg.Size(x.e); n != x.want {
			t.Errorf("Size(%s) = %d, want %d", shown(x.e), n, x.want)
		}
	}
}

// someEntries are entries of all kinds, with each of their parts valid, not valid, or zero, or with one thing of it.
func someEntries() []api.Entry {
	us := []api.Update{{}, updated("xy").U, updated(strings.Repeat("x", 201)).U, {Item: ver(1, 0)}, {Path: "a"}, {Data: "x"}, {Dead: true}}
	us = append(us, api.Update{Stamp: api.Stamp{Time: 1}}, api.Update{Stamp: api.Stamp{Ver: ver(0, 1)}})
	ms := []api.Meta{{}, noticed(2).M, noticed(201).M, {Item: ver(0, 1)}, {Path: "a"}, {Size: 1}, {Dead: true}}
	ms = append(ms, api.Meta{Stamp: api.Stamp{Time: -1}}, api.Meta{Stamp: api.Stamp{Ver: ver(1, 0)}})
	outs := []api.Pair{{}, pair(1, 1, 2, 2), pair(1, 0, 0, 0), pair(0, 1, 0, 0), pair(0, 0, 1, 0), pair(0, 0, 0, 1), pair(65, 1, 1, 1), pair(1, 1, 1, -1)}
	var l []api.Entry
	for _, kind := range []int{least, -1, 0, 1, 2, 3, 4, 5, 257, most} {
		for _, u := range us {
			for _, m := range ms {
				for _, out := range outs {
					l = append(l, api.Entry{Kind: kind, U: u, M: m, Out: out})
				}
			}
		}
	}
	return l
}

// P18.1, P18.3: an entry has what is of its kind, valid, and nothing else.
func TestEntries(t *testing.T) {
	m := batch()
	for _, e := range someEntries() {
		sizeIs(t, e)
		m.Entries[1] = e
		putIs(t, m)
		getIs(t, record(told(m)))
	}
	for _, e := range []api.Entry{
		{Kind: api.EUpdate, U: updated("xy").U, M: noticed(2).M},
		{Kind: api.EUpdate, U: updated("xy").U, Out: pair(1, 1, 1, 1)},
		{Kind: api.ENotice, U: updated("xy").U, M: noticed(2).M},
		{Kind: api.ENotice, M: noticed(2).M, Out: pair(1, 1, 1, 1)},
		{Kind: api.EOut, U: updated("xy").U, Out: pair(1, 1, 1, 1)},
		{Kind: api.EOut, M: noticed(2).M, Out: pair(1, 1, 1, 1)},
	} {
		if n := msg.Size(e); n != 0 {
			t.Errorf("Size(%s) = %d", shown(e), n)
		}
		isWrong(t, api.ErrArg, edited(batch(), func(m *api.Msg) { m.Entries[2] = e }))
	}
}

// P18.3, R5: numbers about all limits at each place of entries, with all their data.
func TestSizeEdges(t *testing.T) {
	m := batch()
	for i := range m.Entries {
		e := &m.Entries[i]
		for _, place := range []*int{&e.Kind, &e.U.Item.By, &e.U.Item.N, &e.U.By, &e.U.N, &e.U.Time, &e.M.Item.By, &e.M.Item.N, &e.M.By, &e.M.N, &e.M.Time, &e.M.Size,
			&e.Out.Item.By, &e.Out.Item.N, &e.Out.Ver.By, &e.Out.Ver.N} {
			was := *place
			for _, n := range edges() {
				*place = n
				sizeIs(t, *e)
			}
			*place = was
		}
	}
	for n := range 300 {
		sizeIs(t, updated(strings.Repeat("\xff", n)))
		sizeIs(t, noticed(n))
	}
	for _, p := range []string{"", "a/b", "aaaaaaaaaaaa/aaaaaaaaaaaa/aaaaaaaaaaaa/a", "aaaaaaaaaaaaa", "/", "A", strings.Repeat("a", blob)} {
		for _, dead := range []bool{false, true} {
			for _, e := range []api.Entry{updated(""), updated("x"), noticed(0), noticed(1)} {
				if e.Kind == api.EUpdate {
					e.U.Path, e.U.Dead = p, dead
				} else {
					e.M.Path, e.M.Dead = p, dead
				}
				sizeIs(t, e)
			}
		}
	}
}

// changes are edits each of which makes another message, of any message that has something in all of its lists.
func changes() []func(*api.Msg) {
	l := []func(*api.Msg){
		func(m *api.Msg) { m.Up = !m.Up },
		func(m *api.Msg) { m.Last = !m.Last },
		func(m *api.Msg) { m.F[1].Prefix += "a" },
		func(m *api.Msg) { m.F = m.F[:1] },
		func(m *api.Msg) { m.F[0], m.F[1] = m.F[1], m.F[0] },
		func(m *api.Msg) { m.F = nil },
		func(m *api.Msg) { m.K = api.Know{} },
		func(m *api.Msg) { m.K.Frags = m.K.Frags[:1] },
		func(m *api.Msg) { m.K.Frags = nil },
		func(m *api.Msg) { m.K.Frags[0], m.K.Frags[1] = m.K.Frags[1], m.K.Frags[0] },
		func(m *api.Msg) { m.K.Frags[1].F[0].Prefix = "b" },
		func(m *api.Msg) { m.K.Frags[1].F = nil },
		func(m *api.Msg) { m.K.Frags[1].F = append(m.K.Frags[1].F, clause("c", 0, 0)) },
		func(m *api.Msg) { m.K.Frags[0].V[64]++ },
		func(m *api.Msg) { m.K.Frags[1].V[0]-- },
		func(m *api.Msg) { m.K.Frags[0].Not[1].N++ },
		func(m *api.Msg) { m.K.Frags[0].Not = nil },
		func(m *api.Msg) { m.K.Frags[1].Not = []api.Ver{{}} },
		func(m *api.Msg) { m.K.Items = m.K.Items[1:] },
		func(m *api.Msg) { m.K.Items = nil },
		func(m *api.Msg) { m.K.Items[0], m.K.Items[1] = m.K.Items[1], m.K.Items[0] },
		func(m *api.Msg) { m.K.Items[1].V[64]-- },
		func(m *api.Msg) { m.K.Items[0].Item.By++ },
		func(m *api.Msg) { m.Held = m.Held[:2] },
		func(m *api.Msg) { m.Held = nil },
		func(m *api.Msg) { m.Held[0], m.Held[1] = m.Held[1], m.Held[0] },
		func(m *api.Msg) { m.Entries = m.Entries[:2] },
		func(m *api.Msg) { m.Entries = nil },
		func(m *api.Msg) { m.Entries[0], m.Entries[1] = m.Entries[1], m.Entries[0] },
		func(m *api.Msg) { m.Entries[0].U.Path += "b" },
		func(m *api.Msg) { m.Entries[0].U.Data = "yx" },
		func(m *api.Msg) { m.Entries[1].U.Dead = true },
		func(m *api.Msg) { m.Entries[1].M.Path += "b" },
		func(m *api.Msg) { m.Entries[2].M.Dead = true },
		func(m *api.Msg) { m.Not = m.Not[1:] },
		func(m *api.Msg) { m.Not = nil },
		func(m *api.Msg) { m.Not[0], m.Not[1] = m.Not[1], m.Not[0] },
	}
	for i := range places(&api.Msg{Held: make([]api.Pair, 3), Entries: make([]api.Entry, 3), Not: make([]api.Ver, 2), F: make([]api.Clause, 2), K: api.Know{Frags: make([]api.Frag, 2), Items: make([]api.Known, 2)}}) {
		l = append(l, func(m *api.Msg) { *places(m)[i]++ }, func(m *api.Msg) { *places(m)[i]-- })
	}
	return l
}

// sameIs holds Same of two messages, each way, against the model.
func sameIs(t *testing.T, a, b api.Msg) {
	t.Helper()
	want := same(a, b)
	for range 2 {
		if is := msg.Same(a, b); is != want {
			t.Errorf("Same(%s, %s) = %v", shown(a), shown(b), is)
		}
		if is := msg.Same(b, a); is != want {
			t.Errorf("Same(%s, %s) = %v", shown(b), shown(a), is)
		}
	}
}

// P18.3: two messages are the same if all fields are, those that their kind does not have, too.
func TestSame(t *testing.T) {
	m := full()
	some := []api.Msg{m, {}, filled(200)}
	some = append(some, all()...)
	for _, change := range changes() {
		some = append(some, edited(m, change))
	}
	for i, a := range some {
		if !msg.Same(a, edited(a, func(*api.Msg) {})) || !msg.Same(a, a) {
			t.Errorf("%s is not the same as itself", shown(a))
		}
		for k, b := range some[:i] {
			sameIs(t, a, b)
			if k == 0 && msg.Same(a, b) {
				t.Errorf("change %d is the same: %s", i, shown(a))
			}
		}
	}
}

// full is a message, of a kind that there is not, with something in all of its fields.
func full() api.Msg {
	m := edited(batch(), func(m *api.Msg) {
		m.Kind, m.Up, m.Code = 9, true, 7
		m.F, m.K, m.Held = request().F, claims(), request().Held
	})
	return m
}

// P18.3: lists without elements are equal, and those with some are not equal to them.
func TestSameOfNothing(t *testing.T) {
	for _, one := range edits() {
		for _, two := range edits() {
			for _, m := range []api.Msg{{}, ack(), full()} {
				sameIs(t, edited(m, one), edited(m, two))
				sameIs(t, edited(m, one), edited(edited(m, two), one))
			}
		}
	}
	none := api.Msg{F: []api.Clause{}, Held: []api.Pair{}, Entries: []api.Entry{}, Not: []api.Ver{}, K: api.Know{Frags: []api.Frag{}, Items: []api.Known{}}}
	if !msg.Same(none, api.Msg{}) || !msg.Same(api.Msg{}, none) {
		t.Error("lists without elements are not equal")
	}
	a := api.Msg{K: api.Know{Frags: []api.Frag{{F: []api.Clause{}, Not: []api.Ver{}}}}}
	b := api.Msg{K: api.Know{Frags: []api.Frag{{}}}}
	if !msg.Same(a, b) || !msg.Same(b, a) || msg.Same(a, none) || msg.Same(none, b) {
		t.Error("claims whose lists have no elements")
	}
}
