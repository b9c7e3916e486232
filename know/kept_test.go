package know_test

import (
	"slices"
	"testing"

	"lighterage/api"
	"lighterage/know"
)

// room is how much spare room a list has behind it, with something in it.
const room = 3

// roomy is a list of the same with spare room behind it, which has something else in it.
func roomy[T any](l []T, spare T) []T {
	long := append(slices.Clone(l), slices.Repeat([]T{spare}, room)...)
	return long[:len(l)]
}

// roomyKnow is knowledge of the same whose lists all have spare room behind them.
func roomyKnow(k api.Know) api.Know {
	var r api.Know
	for _, x := range k.Frags {
		r.Frags = append(r.Frags, api.Frag{F: roomy(x.F, clause("z", 7, 8)), V: x.V, Not: roomy(x.Not, ver(7, 8))})
	}
	r.Frags = roomy(r.Frags, api.Frag{F: cs("y:1-2"), V: vecOf("7.8"), Not: versOf("8.7")})
	r.Items = roomy(k.Items, api.Known{Item: ver(6, 6), V: vecOf("6.6")})
	return r
}

// whole is knowledge with the spare room of all its lists, in new memory.
func whole(k api.Know) api.Know {
	var w api.Know
	for _, x := range k.Frags[:cap(k.Frags)] {
		w.Frags = append(w.Frags, api.Frag{F: slices.Clone(x.F[:cap(x.F)]), V: x.V, Not: slices.Clone(x.Not[:cap(x.Not)])})
	}
	w.Items = slices.Clone(k.Items[:cap(k.Items)])
	return w
}

// spoil writes over all that there is in a list, and behind it.
func spoil[T any](l []T, with T) {
	for i := range l[:cap(l)] {
		l[:cap(l)][i] = with
	}
}

// spoilKnow writes over all lists of knowledge.
func spoilKnow(k api.Know) {
	for _, x := range k.Frags[:cap(k.Frags)] {
		spoil(x.F, clause("q", 1, 2))
		spoil(x.Not, ver(5, 6))
	}
	spoil(k.Frags, api.Frag{F: cs("q:3-4"), V: vecOf("5.5"), Not: versOf("5.5")})
	spoil(k.Items, api.Known{Item: ver(5, 7), V: vecOf("5.6")})
}

// knowCalls are all calls that answer knowledge.
func knowCalls() map[string]func(a, b api.Know, f []api.Clause) api.Know {
	return map[string]func(a, b api.Know, f []api.Clause) api.Know{
		"Add":      func(a, _ api.Know, _ []api.Clause) api.Know { return know.Add(a, ver(9, 9), ver(1, 3)) },
		"Add none": func(a, _ api.Know, _ []api.Clause) api.Know { return know.Add(a, ver(9, 9), ver(0, 3)) },
		"Except":   func(a, _ api.Know, _ []api.Clause) api.Know { return know.Except(a, ver(9, 9)) },
		"Restrict": func(a, _ api.Know, f []api.Clause) api.Know { return know.Restrict(a, f) },
		"Union":    func(a, b api.Know, _ []api.Clause) api.Know { return know.Union(a, b) },
		"Canon":    func(a, _ api.Know, _ []api.Clause) api.Know { return know.Canon(a) },
		"Compact":  func(a, _ api.Know, f []api.Clause) api.Know { return know.Compact(a, f) },
		"Grant": func(a, b api.Know, _ []api.Clause) api.Know {
			if len(b.Frags) == 0 {
				return know.Canon(a)
			}
			return know.Grant(a, b.Frags[0])
		},
	}
}

// kept is knowledge, canonical and other, some of which changes by each of the calls.
func kept() []api.Know {
	return []api.Know{
		kn(),
		kn("a:0-9 1.5"),
		kn("a:0-9 1.5 8.8,9.9"),
		kn("a:0-9 1.5 9.9,8.8,9.9", "b:0-9,a:3-20,b:4-5 0.3,1.5 8.8,9.9"),
		kn("b:0-9 1.5 8.8", "a:0-9 1.5", "c:0-9 1.5 8.8", "d:0-9 1.5", "a:0-3 1.4", "- 1.1", "a:0-1 -"),
		kn("=9.9 1.3", "=8.8 1.7", "=9.9 2.2", "=7.7 -"),
		kn("a:0-9,b:0-9 1.5", "=7.7 1.4", "=8.8 1.6", "=9.9 1.3"),
		kn("c:0-9 1.6,2.-1 9.9", "a:0-9,b:0-9 1.5", "=9.9 1.4", "=8.8 1.6", "=9.9 1.3"),
	}
}

// R3: what is handed in stays as it is, its spare room too.
func TestArgumentsStay(t *testing.T) {
	for _, x := range kept() {
		for _, y := range kept() {
			a, b, f := roomyKnow(x), roomyKnow(y), roomy(cs("b:3-9,a:0-5,a:4-20"), clause("z", 7, 8))
			wasA, wasB, wasF := whole(a), whole(b), slices.Clone(f[:cap(f)])
			stay := func(name string) {
				t.Helper()
				if !same(whole(a), wasA) || !same(whole(b), wasB) || !slices.Equal(f[:cap(f)], wasF) {
					t.Fatalf("%s of %s and %s: these became %s and %s, and the filter %v", name, told(x), told(y), told(whole(a)), told(whole(b)), f[:cap(f)])
				}
			}
			for name, call := range knowCalls() {
				call(a, b, f)
				stay(name)
				call(a, a, f)
				stay(name)
			}
			know.Contains(a, ver(9, 9), ver(1, 5), f)
			know.Contains(a, ver(7, 9), ver(1, 5), f)
			know.Same(a, b)
			know.Same(a, a)
			stay("Contains, or Same")
		}
	}
}

// R3: what is answered is new memory: what becomes of it, or of the arguments, is nothing to the other ones.
func TestAnswersAreNew(t *testing.T) {
	for name, call := range knowCalls() {
		for _, x := range kept() {
			for _, y := range kept() {
				a, b, f := roomyKnow(x), roomyKnow(y), roomy(cs("b:3-9,a:0-5,a:4-20"), clause("z", 7, 8))
				wasA, wasB, wasF := whole(a), whole(b), slices.Clone(f[:cap(f)])
				first := call(a, b, f)
				want := roomyKnow(first)
				spoilKnow(first)
				if !same(whole(a), wasA) || !same(whole(b), wasB) || !slices.Equal(f[:cap(f)], wasF) {
					t.Fatalf("%s of %s and %s lies in one of these", name, told(x), told(y))
				}
				second := call(a, b, f)
				knowIs(t, name+" again", second, want, x, y)
				spoilKnow(a)
				spoilKnow(b)
				spoil(f, clause("q", 1, 2))
				knowIs(t, name+", behind a change of what was handed in,", second, want, x, y)
			}
		}
	}
}

// R3: no two lists of one answer share memory.
func TestListsOfAnAnswerAreTheirOwn(t *testing.T) {
	for name, call := range knowCalls() {
		for _, x := range kept() {
			for _, y := range kept() {
				k := call(roomyKnow(x), roomyKnow(y), cs("b:3-9,a:0-5,a:4-20"))
				for i := range k.Frags {
					was := roomyKnow(k)
					spoil(k.Frags[i].F, clause("q", 1, 2))
					was.Frags[i].F = slices.Clone(k.Frags[i].F)
					knowIs(t, name+", behind a change of F,", k, was, x, y)
					spoil(k.Frags[i].Not, ver(5, 6))
					was.Frags[i].Not = slices.Clone(k.Frags[i].Not)
					knowIs(t, name+", behind a change of Not,", k, was, x, y)
				}
			}
		}
	}
}
