package update_test

import (
	"slices"
	"testing"

	"lighterage/api"
	"lighterage/update"
)

// asked asks all calls that take lists.
func asked(l []api.Update, f []api.Clause) {
	update.View(l, f)
	for _, u := range l {
		update.Best(l, u.Item)
		update.Match(f, u)
		update.MatchMeta(f, update.Meta(u))
	}
}

// R3: no list that is passed is changed, its spare room neither.
func TestArgumentsStay(t *testing.T) {
	f := []api.Clause{clause("b", 0, 9), clause("a", 1, 3), clause("", 0, 1), clause("z", 0, 0)}
	wasF := slices.Clone(f)
	for _, own := range lists(some(), 3) {
		l := append(slices.Clone(own), some()[:2]...)
		was := slices.Clone(l)
		asked(l[:3], f[:3])
		asked(l[1:4], f[1:2])
		if !slices.Equal(l, was) || !slices.Equal(f, wasF) {
			t.Fatalf("%v and %v became %v and %v", was, wasF, l, f)
		}
	}
}

// R3: what is answered is new memory: what becomes of it, or of the arguments, is nothing to the other ones.
func TestAnswersAreNew(t *testing.T) {
	for _, own := range lists(some(), 3) {
		l := append(slices.Clone(own), some()[:2]...)
		was := slices.Clone(l)
		first := update.View(l[:3], every())
		kept := slices.Clone(first)
		for i := range first[:cap(first)] {
			first[:cap(first)][i] = gone(ver(6, 6), stamp(6, 6, 6), "f")
		}
		if !slices.Equal(l, was) {
			t.Fatalf("the view lies in %v", was)
		}
		second := update.View(l[:3], every())
		if !slices.Equal(second, kept) {
			t.Fatalf("View(%v) = %v, was %v", was[:3], second, kept)
		}
		for i := range l {
			l[i] = gone(ver(5, 5), stamp(5, 5, 5), "e")
		}
		if !slices.Equal(second, kept) {
			t.Fatalf("%v became %v behind a change of its argument", kept, second)
		}
	}
}

// R3, R4: what was asked ahead is not kept: another list, and another filter, in the same place are asked anew.
func TestNothingIsKept(t *testing.T) {
	l, f := slices.Clone(some()), every()
	for i := range l {
		for _, u := range some() {
			l[i] = u
			for _, p := range []string{"", "a", "b"} {
				f[0].Prefix = p
				listIs(t, l, ver(3, 3), f)
				matchIs(t, f, u)
			}
		}
	}
}
