package pack_test

import (
	"slices"
	"testing"

	"lighterage/api"
	"lighterage/pack"
)

// roomy is a list of the same with spare room behind it, which has something else in it.
func roomy[T any](l []T, spare T) []T {
	return append(slices.Clone(l), spare, spare, spare)[:len(l)]
}

// roomyKnow is knowledge of the same whose lists all have spare room behind them.
func roomyKnow(k api.Know) api.Know {
	var r api.Know
	for _, x := range k.Frags {
		r.Frags = append(r.Frags, api.Frag{F: roomy(x.F, clause("z", 7, 8)), V: x.V, Not: roomy(x.Not, ver(7, 8))})
	}
	r.Frags = roomy(r.Frags, api.Frag{F: []api.Clause{clause("y", 1, 2)}, V: vector(7, 8), Not: []api.Ver{ver(8, 7)}})
	r.Items = roomy(k.Items, api.Known{Item: ver(6, 6), V: vector(6, 6)})
	return r
}

// whole is knowledge with the spare room of all its lists, in new memory.
func whole(k api.Know) api.Know {
	var w api.Know
	for _, x := range k.Frags[:cap(k.Frags)] {
		w.Frags = append(w.Frags, api.Frag{F: slices.Clone(x.F[:cap(x.F)]), V: x.V, Not: slices.Clone(x.Not[:cap(x.Not)])})
	}
	w.Items = slices.Clone(k.Items[:cap(k.Items)])
	return w
}

// spoil writes over all that there is in a list, and behind it.
func spoil[T any](l []T, with T) {
	for i := range l[:cap(l)] {
		l[:cap(l)][i] = with
	}
}

// spoilKnow writes over all lists of knowledge.
func spoilKnow(k api.Know) {
	for _, x := range k.Frags[:cap(k.Frags)] {
		spoil(x.F, clause("q", 1, 2))
		spoil(x.Not, ver(5, 6))
	}
	spoil(k.Frags, api.Frag{F: []api.Clause{clause("q", 3, 4)}, V: vector(5, 5), Not: []api.Ver{ver(5, 5)}})
	spoil(k.Items, api.Known{Item: ver(5, 7), V: vector(5, 6)})
}

// kept is knowledge with claims of either kind, some of which have the same lists, and some of which may not be.
func kept() []api.Know {
	f, not := []api.Clause{clause("b", 1, 2), clause("", 3, 4), clause("a", 0, 200)}, []api.Ver{ver(1, 1), ver(2, 300), ver(3, 3)}
	alike := api.Know{Frags: []api.Frag{{F: f, V: vector(5), Not: not}, {F: f, V: vector(0, 5), Not: not}, {F: f[:2], Not: not[1:]}}}
	wrong := small()
	wrong.Items[1].Item = api.Ver{}
	return []api.Know{{}, small(), alike, {Items: small().Items}, {Frags: small().Frags}, bigFrag(300), bigFrag(blob), wrong}
}

// R3: what is handed in stays as it is, its spare room too.
func TestArgumentsStay(t *testing.T) {
	for _, x := range kept() {
		k := roomyKnow(x)
		was := whole(k)
		pack.PutKnow(k)
		for _, y := range k.Frags {
			pack.PutFilter(y.F)
			pack.PutItems(y.Not)
			slices.Reverse(y.Not)
			backward := slices.Clone(y.Not[:cap(y.Not)])
			pack.PutItems(y.Not)
			if !slices.Equal(y.Not[:cap(y.Not)], backward) {
				t.Fatalf("PutItems: %v became %v", backward, y.Not[:cap(y.Not)])
			}
			slices.Reverse(y.Not)
		}
		if now := whole(k); !sameKnow(now, was) {
			t.Fatalf("%.300v became %.300v", was, now)
		}
	}
}

// R3: what is read is new memory: what becomes of it is nothing to the next one.
func TestAnswersAreNew(t *testing.T) {
	for _, x := range kept() {
		s, e := pack.PutKnow(x)
		if e != api.OK {
			continue
		}
		first, _ := pack.GetKnow(s)
		second, _ := pack.GetKnow(s)
		spoilKnow(first)
		if !sameKnow(second, x) {
			t.Fatalf("%.300v became %.300v", x, second)
		}
		for _, y := range x.Frags {
			fs, _ := pack.PutFilter(y.F)
			f, _ := pack.GetFilter(fs)
			spoil(f, clause("q", 1, 2))
			filters().getIs(t, fs)
			is, _ := pack.PutItems(y.Not)
			l, _ := pack.GetItems(is)
			spoil(l, ver(5, 6))
			items().getIs(t, is)
		}
	}
}

// R3: no two lists of what is read share memory.
func TestListsOfAnAnswerAreTheirOwn(t *testing.T) {
	for _, x := range kept() {
		s, e := pack.PutKnow(x)
		if e != api.OK {
			continue
		}
		for i := range x.Frags {
			k, _ := pack.GetKnow(s)
			spoil(k.Frags[i].F, clause("q", 1, 2))
			spoil(k.Frags[i].Not, ver(5, 6))
			k.Frags[i].F, k.Frags[i].Not = x.Frags[i].F, x.Frags[i].Not
			if !sameKnow(k, x) {
				t.Fatalf("behind a change of claim %d: %.300v became %.300v", i, x, k)
			}
		}
	}
}

// R3, R4: what was asked ahead is not kept: something else in the same place is asked anew.
func TestNothingIsKept(t *testing.T) {
	f, l := []api.Clause{clause("a", 0, 9)}, []api.Ver{ver(1, 1), ver(1, 2)}
	for _, n := range edges() {
		f[0].Hi, l[1].N = n, n
		filters().putIs(t, f)
		items().putIs(t, l)
		knowledge().putIs(t, api.Know{Frags: []api.Frag{{F: f, Not: l}}})
		// An error is nothing to what comes behind it.
		knowledge().putIs(t, small())
		knowledge().getIs(t, "\x01")
		knowledge().getIs(t, toldKnow(small()))
	}
	big := bigFrag(2 * blob)
	for range 3 {
		knowledge().isWrong(t, api.ErrBig, big)
		knowledge().putIs(t, small())
	}
}
