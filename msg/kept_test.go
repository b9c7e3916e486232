package msg_test

import (
	"slices"
	"testing"

	"lighterage/api"
	"lighterage/msg"
)

// roomy is a list of the same with spare room behind it, which has something else in it.
func roomy[T any](l []T, spare T) []T {
	return append(slices.Clone(l), spare, spare, spare)[:len(l)]
}

// roomyMsg is the same message whose lists all have spare room behind them.
func roomyMsg(m api.Msg) api.Msg {
	var frags []api.Frag
	for _, x := range m.K.Frags {
		frags = append(frags, api.Frag{F: roomy(x.F, clause("z", 7, 8)), V: x.V, Not: roomy(x.Not, ver(7, 8))})
	}
	m.K.Frags = roomy(frags, api.Frag{F: []api.Clause{clause("y", 1, 2)}, V: vector(7, 8), Not: []api.Ver{ver(8, 7)}})
	m.K.Items = roomy(m.K.Items, api.Known{Item: ver(6, 6), V: vector(6, 6)})
	m.F, m.Not = roomy(m.F, clause("x", 5, 6)), roomy(m.Not, ver(5, 5))
	m.Held, m.Entries = roomy(m.Held, pair(4, 4, 4, 4)), roomy(m.Entries, noticed(9))
	return m
}

// whole is a message with the spare room of all its lists, in new memory.
func whole(m api.Msg) api.Msg {
	var frags []api.Frag
	for _, x := range m.K.Frags[:cap(m.K.Frags)] {
		frags = append(frags, api.Frag{F: slices.Clone(x.F[:cap(x.F)]), V: x.V, Not: slices.Clone(x.Not[:cap(x.Not)])})
	}
	m.K.Frags, m.K.Items = frags, slices.Clone(m.K.Items[:cap(m.K.Items)])
	m.F, m.Not = slices.Clone(m.F[:cap(m.F)]), slices.Clone(m.Not[:cap(m.Not)])
	m.Held, m.Entries = slices.Clone(m.Held[:cap(m.Held)]), slices.Clone(m.Entries[:cap(m.Entries)])
	return m
}

// spoil writes over all that there is in a list, and behind it.
func spoil[T any](l []T, with T) {
	for i := range l[:cap(l)] {
		l[:cap(l)][i] = with
	}
}

// spoilers write each over one list of a message.
func spoilers() []func(*api.Msg) {
	return []func(*api.Msg){
		func(m *api.Msg) { spoil(m.F, clause("q", 1, 2)) },
		func(m *api.Msg) { spoil(m.Held, pair(9, 9, 9, 9)) },
		func(m *api.Msg) { spoil(m.Entries, noticed(77)) },
		func(m *api.Msg) { spoil(m.Not, ver(9, 9)) },
		func(m *api.Msg) { spoil(m.K.Items, api.Known{Item: ver(9, 9)}) },
		func(m *api.Msg) {
			if len(m.K.Frags) > 0 {
				spoil(m.K.Frags[0].F, clause("q", 1, 2))
			}
		},
		func(m *api.Msg) {
			if len(m.K.Frags) > 0 {
				spoil(m.K.Frags[0].Not, ver(9, 9))
			}
		},
		func(m *api.Msg) { spoil(m.K.Frags, api.Frag{V: vector(9)}) },
	}
}

// kept are messages of all kinds, some of whose lists are alike, and some of which may not be.
func kept() []api.Msg {
	f, not := []api.Clause{clause("b", 1, 2), clause("", 3, 4)}, []api.Ver{ver(1, 1), ver(2, 300)}
	alike := api.Msg{Kind: api.MRequest, Sid: sid(1, 1, 1), F: f, K: api.Know{Frags: []api.Frag{{F: f, Not: not}, {F: f, Not: not}, {F: f[:1], Not: not[1:]}}}}
	wrong := edited(batch(), func(m *api.Msg) { m.Entries[0].Kind = 2; slices.Reverse(m.Not) })
	return append(all(), api.Msg{}, alike, wrong, full(), filled(300), filled(blob), asked(blob), edited(request(), func(m *api.Msg) { slices.Reverse(m.Held) }))
}

// R3: what is handed in stays as it is, its spare room too.
func TestArgumentsStay(t *testing.T) {
	for _, x := range kept() {
		m := roomyMsg(x)
		was := whole(m)
		msg.Check(m)
		msg.Put(m)
		msg.Same(m, m)
		msg.Same(m, x)
		for _, e := range m.Entries {
			msg.Size(e)
		}
		if now := whole(m); !same(now, was) {
			t.Fatalf("%s became %s", shown(was), shown(now))
		}
	}
}

// R3: what is read is new memory, and no two lists of it share any.
func TestAnswersAreNew(t *testing.T) {
	for _, x := range kept() {
		s, e := msg.Put(x)
		if e != api.OK {
			continue
		}
		for i, spoiler := range spoilers() {
			first, _ := msg.Get(s)
			second, _ := msg.Get(s)
			spoiler(&first)
			if !same(second, x) {
				t.Fatalf("behind spoiler %d: %s became %s", i, shown(x), shown(second))
			}
			// But for the list that was written over, all is as it was.
			want := edited(x, func(m *api.Msg) { spoiler(m) })
			if !same(first, want) {
				t.Fatalf("behind spoiler %d: %s, want %s", i, shown(first), shown(want))
			}
		}
	}
}

// R3, R4: what was asked ahead is not kept: something else in the same place is asked anew.
func TestNothingIsKept(t *testing.T) {
	m := batch()
	for _, n := range edges() {
		m.Entries[2].Out.Item.N, m.Not[1].N = n, n
		putIs(t, m)
		// An error is nothing to what comes behind it.
		putIs(t, request())
		getIs(t, "\x01")
		getIs(t, record(told(ack())))
	}
	big := filled(blob)
	for range 3 {
		isWrong(t, api.ErrBig, big)
		putIs(t, request())
		isWrong(t, api.ErrArg, api.Msg{})
		putIs(t, ack())
	}
}
