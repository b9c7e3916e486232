package flang_test

import (
	"slices"
	"strings"
	"testing"

	"lighterage/api"
	"lighterage/filter"
	"lighterage/flang"
)

// P11.3: the texts of the normal forms of filters.
func TestPlain(t *testing.T) {
	cases := []struct{ s, want string }{
		{"!", "!"},
		{"*", "*"},
		{"*:0-200", "*"},
		{"a:0-200", "a"},
		{"a:0-9", "a:0-9"},
		{"doc:10-20,*:0-5,doc:0-3", "*:0-5,doc:10-20"},
		{"a/b:3-4,*", "*"},
		{"b,a", "a,b"},
		{"a,a,a,a,a,a,a,a", "a"},
		{"a:100-200,a:0-99", "a"},
		{"a:0-9,*:3-5", "*:3-5,a:0-2,a:6-9"},
		{"a,*:0-5", "*:0-5,a:6-200"},
		{"a/b:0-9,a:3-5,*:0-2", "*:0-2,a:3-5,a/b:6-9"},
		{"a/b,a-b,a", "a,a-b"},
		{"a/b:7-9,a0:7-9,a-b:7-9", "a-b:7-9,a/b:7-9,a0:7-9"},
		{"a:2-2,a:0-0,a:1-1", "a:0-2"},
	}
	for _, c := range cases {
		plainIs(t, c.s, c.want, api.OK)
		plainIs(t, c.want, c.want, api.OK)
		textIs(t, c.s)
	}
}

// P11.3: normal forms of as many clauses as there may be, and of more: then it is the filter itself, as Print tells it.
func TestPlainLong(t *testing.T) {
	cases := []struct{ s, want string }{
		// 8 clauses.
		{"a,*:9-9,*:5-5,*:1-1", "*:1-1,*:5-5,*:9-9,a:0-0,a:2-4,a:6-8,a:10-200"},
		{"b:0-0,a,*:9-9,*:5-5,*:1-1", "*:1-1,*:5-5,*:9-9,a:0-0,a:2-4,a:6-8,a:10-200,b:0-0"},
		// 9 clauses, and more.
		{"b:0-0,a,*:9-9,*:5-5,*:1-1,c:3-3", "b:0-0,a,*:9-9,*:5-5,*:1-1,c:3-3"},
		{"a,*:9-9,*:7-7,*:5-5,*:1-1", "a,*:9-9,*:7-7,*:5-5,*:1-1"},
		{"d,c,b,a,*:9-9,*:7-7,*:5-5,*:1-1", "d,c,b,a,*:9-9,*:7-7,*:5-5,*:1-1"},
		// All sizes are not written out, nor is anything else changed: clauses that say nothing stay.
		{"b:0-200,a:0-200,*:9-9,*:5-5,*:1-1", "b,a,*:9-9,*:5-5,*:1-1"},
		{"b:0-200,*:9-9,*:7-7,*:5-5,*:1-1,*:1-1,b,b:3-4", "b,*:9-9,*:7-7,*:5-5,*:1-1,*:1-1,b,b:3-4"},
	}
	for _, c := range cases {
		plainIs(t, c.s, c.want, api.OK)
		plainIs(t, c.want, c.want, api.OK)
		textIs(t, c.s)
	}
}

// P11.4: all pairs of some filters: those that are alike have one plain text, and others have others.
func TestOnePlain(t *testing.T) {
	filters := few()
	var texts []string
	for _, f := range filters {
		s, e := flang.Print(f)
		p, again := flang.Plain(s)
		if e != api.OK || again != api.OK || len(filter.Norm(f)) > 8 {
			t.Fatalf("of %v come %d and %d", f, int(e), int(again))
		}
		g, e := flang.Parse(p)
		if e != api.OK || !modelSame(f, g) {
			t.Errorf("the plain text of %v, %q, is not alike", f, p)
		}
		texts = append(texts, p)
	}
	// To be alike goes on from one to the next, so one filter of each plain text is enough to hold others against.
	first := map[string][]api.Clause{}
	for i, f := range filters {
		g, is := first[texts[i]]
		if !is {
			first[texts[i]] = f
		} else if !modelSame(f, g) {
			t.Errorf("%v and %v have one plain text, %q", f, g, texts[i])
		}
	}
	var other []string
	for s := range first {
		other = append(other, s)
	}
	for i, s := range other {
		for _, p := range other[:i] {
			if modelSame(first[s], first[p]) {
				t.Errorf("%v and %v are alike, and have the plain texts %q and %q", first[s], first[p], s, p)
			}
		}
	}
}

// P11.4: whatever the order of a filter's clauses, and however they are cut.
func TestOrders(t *testing.T) {
	s := []string{"a:0-10", "a:8-20", "*:4-4", "a/b:3-30", "a-b:5-5", "c"}
	const want = "*:4-4,a:0-3,a:5-20,a-b:5-5,a/b:21-30,c:0-3,c:5-200"
	turns := 0
	var turn func(k int)
	turn = func(k int) {
		if k == len(s) {
			plainIs(t, strings.Join(s, ","), want, api.OK)
			turns++
			return
		}
		for i := k; i < len(s); i++ {
			s[k], s[i] = s[i], s[k]
			turn(k + 1)
			s[k], s[i] = s[i], s[k]
		}
	}
	turn(0)
	if turns != 720 {
		t.Errorf("%d orders", turns)
	}
	for cut := range 200 {
		f := []api.Clause{clause("c", cut+1, 200), clause("c", 0, cut), clause("c/d", cut, cut)}
		p, e := flang.Print(f)
		if e != api.OK {
			t.Fatalf("Print(%v): %d", f, int(e))
		}
		plainIs(t, p, "c", api.OK)
	}
}

// filterOf reads clauses out of bytes: now and then one that is not valid.
func filterOf(s []byte) []api.Clause {
	prefixes := []string{"", "a", "a/b", "a/b/c", "a-b", "a0", "ab", "b", "*", "a,b", "A"}
	numbers := []int{least, -1, 201, most}
	number := func(b byte) int {
		if b > 250 {
			return numbers[int(b)%len(numbers)]
		}
		return min(int(b), 200)
	}
	var f []api.Clause
	for ; len(s) >= 3 && len(f) < 10; s = s[3:] {
		f = append(f, clause(prefixes[int(s[0])%len(prefixes)], number(s[1]), number(s[2])))
	}
	return f
}

// P11.1 to P11.4, R1: whatever the texts and the clauses are.
func FuzzTexts(f *testing.F) {
	for _, s := range []string{"", "!", "*", "a/b:3-4,*", "doc:10-20,*:0-5,doc:0-3", "doc:1-02", "a,*:9-9,*:7-7,*:5-5,*:1-1", "a:0-200,", "\xff:-"} {
		f.Add(s, []byte{0, 0, 200, 1, 3, 9})
	}
	f.Add(strings.Repeat("a", 513), slices.Repeat([]byte{2, 5, 7}, 9))
	f.Fuzz(func(t *testing.T, s string, b []byte) {
		textIs(t, s)
		filterIs(t, filterOf(b))
		p, e := flang.Plain(s)
		if e != api.OK {
			return
		}
		plainIs(t, p, p, api.OK)
		g, _ := flang.Parse(s)
		h, e := flang.Parse(p)
		if e != api.OK || !modelSame(g, h) || !filter.Same(g, h) {
			t.Errorf("%q and its plain text %q are not alike", s, p)
		}
	})
}
