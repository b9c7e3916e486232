package path_test

import (
	"strings"
	"testing"

	"lighterage/api"
	"lighterage/path"
)

// P7.2: which prefix covers which text, whatever the texts are.
func TestCovers(t *testing.T) {
	cases := []struct {
		prefix, s string
		want      bool
	}{
		{"", "", true},
		{"", "a", true},
		{"", "/", true},
		{"", "\xff\x00", true},
		{"a", "a", true},
		{"a", "a/b", true},
		{"a", "a/b/c", true},
		{"a/b", "a/b/c", true},
		{"a", "ab", false},
		{"a", "ab/c", false},
		{"a", "a.b", false},
		{"a", "a-", false},
		{"a", "a0", false}, // 0 stands behind / in the order of bytes
		{"a", "", false},
		{"a", "b", false},
		{"a", "b/a", false},
		{"a/b", "a", false},
		{"a/b", "a/bc", false},
		{"a/b", "a/c", false},
		{"b", "a/b", false},
		{"A", "a/b", false},
		// Texts that are no paths.
		{"a", "a/", true},
		{"a", "a//", true},
		{"a/", "a/", true},
		{"a/", "a/b", false},
		{"a/", "a", false},
		{"a/", "a//b", true},
		{"/", "/", true},
		{"/", "//", true},
		{"/", "/a", false},
		{"/", "a", false},
		{"/a", "/a/b", true},
		{"..", "../a", true},
		{"\xff", "\xff/\xfe", true},
		{"\xc3", "ä", false},
		{"ä", "ä/b", true},
		{"a b", "a b/B", true},
	}
	for _, c := range cases {
		if is := path.Covers(c.prefix, c.s); is != c.want {
			t.Errorf("Covers(%q, %q) = %v", c.prefix, c.s, is)
		}
	}
}

// P7.2: the longer one of two, whichever is handed in first, and nothing of two that do not meet.
func TestMeet(t *testing.T) {
	cases := []struct {
		a, b, want string
		is         bool
	}{
		{"", "", "", true},
		{"", "a", "a", true},
		{"a", "a", "a", true},
		{"a/b", "a", "a/b", true},
		{"a/b/c", "a", "a/b/c", true},
		{"a/b", "", "a/b", true},
		{"a", "b", "", false},
		{"a", "ab", "", false},
		{"a/b", "a/c", "", false},
		{"a/b", "b", "", false},
		{"a/bc", "a/b", "", false},
		{"a/", "a", "a/", true},
		{"a/", "a/b", "", false},
		{"/", "", "/", true},
		{"\xff/\x00", "\xff", "\xff/\x00", true},
	}
	for _, c := range cases {
		for _, p := range [][2]string{{c.a, c.b}, {c.b, c.a}} {
			if s, is := path.Meet(p[0], p[1]); s != c.want || is != c.is {
				t.Errorf("Meet(%q, %q) = %q, %v, want %q, %v", p[0], p[1], s, is, c.want, c.is)
			}
		}
	}
}

// P7.2: what stands ahead of the last /, of paths and of other texts.
func TestParent(t *testing.T) {
	cases := []struct{ s, want string }{
		{"", ""},
		{"a", ""},
		{"a/b", "a"},
		{"a/b/c", "a/b"},
		{"1/2/3/4/5/6", "1/2/3/4/5"},
		{"1/2/3/4/5/6/7", "1/2/3/4/5/6"},
		{"/", ""},
		{"//", "/"},
		{"/a", ""},
		{"a/", "a"},
		{"a//", "a/"},
		{"a//b", "a/"},
		{"B/ ", "B"},
		{"\xff/\xfe", "\xff"},
		{"ä\x00/日/", "ä\x00/日"},
		{strings.Repeat("a", 1<<20), ""},
		{strings.Repeat("a/", 1<<19), strings.Repeat("a/", 1<<19-1) + "a"},
	}
	for _, c := range cases {
		if s := path.Parent(c.s); s != c.want {
			t.Errorf("Parent(%q) = %q, want %q", c.s, s, c.want)
		}
	}
}

// P7.2: all pairs of texts of a few letters.
func TestPairs(t *testing.T) {
	l := texts("a./", 5)
	for _, a := range l {
		for _, b := range l {
			pairIs(t, a, b)
		}
	}
}

// ordered tells whether Covers orders three texts.
func ordered(t *testing.T, a, b, c string) {
	t.Helper()
	if !path.Covers(a, a) {
		t.Errorf("%q does not cover itself", a)
	}
	if a != b && path.Covers(a, b) && path.Covers(b, a) {
		t.Errorf("%q and %q cover one another", a, b)
	}
	if path.Covers(a, b) && path.Covers(b, c) && !path.Covers(a, c) {
		t.Errorf("%q covers %q, which covers %q, but not that one", a, b, c)
	}
}

// P7.3: Covers is an order of whatever texts.
func TestOrder(t *testing.T) {
	l := append(texts("a/", 5), texts("ab/", 3)...)
	l = append(l, "a/b/c/d", "A", "\xff", "\xff/", "\xff/ä")
	for _, a := range l {
		for _, b := range l {
			for _, c := range l {
				ordered(t, a, b, c)
			}
		}
	}
}

// back tells whether a path's names, joined, are the path again, and whether each parent of it covers it.
func back(t *testing.T, s string) {
	t.Helper()
	l, e := path.Names(s)
	if e != api.OK {
		return
	}
	if p, e := path.Join(l...); p != s || e != api.OK {
		t.Errorf("the names of %q, joined, are %q, %d", s, p, int(e))
	}
	p := s
	for i := len(l) - 1; i >= 0; i-- {
		p = path.Parent(p)
		if !path.Covers(p, s) || path.Covers(s, p) {
			t.Errorf("%q does not cover %q, or is covered by it", p, s)
		}
		// Of no names there is no path.
		if q, _ := path.Join(l[:i]...); q != p {
			t.Errorf("%d names of %q, joined, are %q, want %q", i, s, q, p)
		}
	}
}

// P7.3: the names of a path, joined, are the path.
func TestBack(t *testing.T) {
	paths := 0
	for _, s := range append(texts("a.-/", 7), "1/2/3/4/5/6", twelve+"/"+twelve+"/"+twelve+"/z", "aaaaa/bbbbbb/cccccc/dddddd/eeeeee/ffffff") {
		if path.Check(s) == api.OK {
			paths++
		}
		back(t, s)
	}
	if paths < 5000 {
		t.Errorf("only %d paths among them", paths)
	}
}
