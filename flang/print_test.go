package flang_test

import (
	"slices"
	"strings"
	"testing"

	"lighterage/api"
	"lighterage/flang"
)

// P11.1: the texts of filters.
func TestPrint(t *testing.T) {
	cases := []struct {
		f    []api.Clause
		want string
	}{
		{nil, "!"},
		{[]api.Clause{}, "!"},
		{[]api.Clause{clause("", 0, 200)}, "*"},
		{[]api.Clause{clause("", 0, 5)}, "*:0-5"},
		{[]api.Clause{clause("a/b", 3, 4), clause("", 0, 200)}, "a/b:3-4,*"},
		{[]api.Clause{clause("doc", 10, 20), clause("", 0, 5)}, "doc:10-20,*:0-5"},
		{[]api.Clause{clause("doc", 0, 200)}, "doc"},
		// One end of all sizes is not all of them.
		{[]api.Clause{clause("a", 0, 199)}, "a:0-199"},
		{[]api.Clause{clause("a", 1, 200)}, "a:1-200"},
		{[]api.Clause{clause("a", 0, 0)}, "a:0-0"},
		{[]api.Clause{clause("a", 200, 200)}, "a:200-200"},
		{[]api.Clause{clause("a", 7, 7)}, "a:7-7"},
		{[]api.Clause{clause("a", 9, 100)}, "a:9-100"},
		// In the order in which they stand, each as often as it stands, whatever they say.
		{[]api.Clause{clause("b", 0, 200), clause("a", 3, 4), clause("b", 0, 200), clause("b/c", 0, 200)}, "b,a:3-4,b,b/c"},
		{[]api.Clause{clause("", 0, 200), clause("", 0, 200)}, "*,*"},
		{[]api.Clause{clause("a", 0, 4), clause("a", 5, 9)}, "a:0-4,a:5-9"},
		// Prefixes of all letters that there are.
		{[]api.Clause{clause("-", 1, 2), clause("a-b/_", 0, 200), clause(".x/0..9", 3, 4)}, "-:1-2,a-b/_,.x/0..9:3-4"},
	}
	for _, c := range cases {
		printIs(t, c.f, c.want, api.OK)
		parseIs(t, c.want, c.f, api.OK)
		filterIs(t, c.f)
	}
}

// P11.1: filters that may not be, with the error that filter.Check has of them.
func TestPrintWrong(t *testing.T) {
	good := clause("a", 0, 200)
	cases := []struct {
		f    []api.Clause
		want api.Errno
	}{
		{[]api.Clause{clause("A", 0, 1)}, api.ErrPath},
		{[]api.Clause{clause("*", 0, 200)}, api.ErrPath},
		{[]api.Clause{clause("!", 0, 200)}, api.ErrPath},
		{[]api.Clause{clause("a,b", 0, 200)}, api.ErrPath},
		{[]api.Clause{clause("a:0-5", 0, 200)}, api.ErrPath},
		{[]api.Clause{clause("a/", 0, 200)}, api.ErrPath},
		{[]api.Clause{clause("..", 0, 200)}, api.ErrPath},
		{[]api.Clause{clause(strings.Repeat("a", 1<<20), 0, 200)}, api.ErrPath},
		{[]api.Clause{clause("a", 2, 1)}, api.ErrArg},
		{[]api.Clause{clause("a", -1, 1)}, api.ErrArg},
		{[]api.Clause{clause("", 0, 201)}, api.ErrArg},
		{[]api.Clause{clause("", least, most)}, api.ErrArg},
		{[]api.Clause{clause("", most, least)}, api.ErrArg},
		{[]api.Clause{clause("A", 2, 1)}, api.ErrPath},
		{[]api.Clause{good, clause("A", 0, 1)}, api.ErrPath},
		{[]api.Clause{good, clause("a", 2, 1), clause("A", 0, 1)}, api.ErrArg},
		{slices.Repeat([]api.Clause{good}, 9), api.ErrBig},
		{slices.Repeat([]api.Clause{clause("A", 2, 1)}, 9), api.ErrBig},
		{slices.Repeat([]api.Clause{good}, 1<<16), api.ErrBig},
	}
	for _, c := range cases {
		printIs(t, c.f, "", c.want)
	}
}

// P11.1, P11.4: all ranges there are, and those beyond, at some prefixes.
func TestRanges(t *testing.T) {
	for lo := -1; lo <= 201; lo++ {
		for hi := -1; hi <= 201; hi++ {
			filterIs(t, []api.Clause{clause("", lo, hi)})
			if lo%20 == 0 {
				filterIs(t, []api.Clause{clause("a/b-c", lo, hi), clause("", 0, 200)})
			}
		}
	}
}

// P11.1, P11.4: as many clauses as there may be, of the longest texts.
func TestLongest(t *testing.T) {
	long := strings.Repeat("abcdefghi/", 3) + "abcdefghij"
	for n := range 12 {
		f := slices.Repeat([]api.Clause{clause(long, 100, 200)}, n)
		filterIs(t, f)
		if s, e := flang.Print(f); n == 8 && (len(s) != 391 || e != api.OK) {
			t.Errorf("Print of the longest filter is of %d bytes, %d", len(s), int(e))
		}
	}
}

// few are filters of up to three of some clauses, also of such as say nothing new.
func few() [][]api.Clause {
	l := all([]string{"", "a", "a/b", "a-b"}, api.Range{Lo: 0, Hi: 200}, api.Range{Lo: 0, Hi: 5}, api.Range{Lo: 3, Hi: 9})
	filters := [][]api.Clause{nil}
	for _, c := range l {
		filters = append(filters, []api.Clause{c})
		for _, d := range l {
			filters = append(filters, []api.Clause{c, d})
			for _, e := range l[:6] {
				filters = append(filters, []api.Clause{c, d, e})
			}
		}
	}
	return filters
}

// P11.1, P11.2, P11.4: of many filters: their texts, and what comes back.
func TestBack(t *testing.T) {
	texts := map[string][]api.Clause{}
	for _, f := range few() {
		filterIs(t, f)
		s, e := flang.Print(f)
		if e != api.OK {
			t.Errorf("Print(%v): %d", f, int(e))
		}
		if g, is := texts[s]; is && !slices.Equal(f, g) {
			t.Errorf("%v and %v have one text, %q", f, g, s)
		}
		texts[s] = f
	}
}

// R3: what is handed in stays as it is, its spare room too, and what is answered is new.
func TestNothingShared(t *testing.T) {
	const text, room = "a/b:3-4,*,c", 5
	want := []api.Clause{clause("a/b", 3, 4), clause("", 0, 200), clause("c", 0, 200)}
	all := slices.Concat(want, slices.Repeat([]api.Clause{clause("z", 7, 7)}, room))
	kept := slices.Clone(all)
	printIs(t, all[:len(want)], text, api.OK)
	if !slices.Equal(all, kept) {
		t.Errorf("what was handed in became %v", all)
	}
	f, _ := flang.Parse(text)
	g, _ := flang.Parse(text)
	for i := range f[:cap(f)] {
		f[:cap(f)][i] = clause("x", 1, 2)
	}
	if !slices.Equal(g, want) {
		t.Errorf("another answer became %v", g)
	}
	parseIs(t, text, want, api.OK)
	plainIs(t, text, "*", api.OK)
}
