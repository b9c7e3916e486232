package path_test

import (
	"slices"
	"strings"
	"testing"

	"lighterage/api"
	"lighterage/path"
)

const twelve = "abcdefghijkl"

// P7.1: texts that are paths, up to the limits, and their names in order.
func TestPaths(t *testing.T) {
	cases := []struct {
		s    string
		want []string
	}{
		{"a", []string{"a"}},
		{"0", []string{"0"}},
		{"-", []string{"-"}},
		{"_", []string{"_"}},
		{"a/b", []string{"a", "b"}},
		{"b/a/b", []string{"b", "a", "b"}},
		{"a/b-c/d_1.x", []string{"a", "b-c", "d_1.x"}},
		{".a/a./.-/..._/9..9", []string{".a", "a.", ".-", "..._", "9..9"}},
		{"1/2/3/4/5/6", []string{"1", "2", "3", "4", "5", "6"}},
		{twelve, []string{twelve}},
		{"mnopqrstuvwx/yz0123456789", []string{"mnopqrstuvwx", "yz0123456789"}},
		{"...........a", []string{"...........a"}},
		// 40 bytes, of as few names as can have them, and of as many.
		{twelve + "/" + twelve + "/" + twelve + "/z", []string{twelve, twelve, twelve, "z"}},
		{"aaaaa/bbbbbb/cccccc/dddddd/eeeeee/ffffff", []string{"aaaaa", "bbbbbb", "cccccc", "dddddd", "eeeeee", "ffffff"}},
	}
	for _, c := range cases {
		namesAre(t, c.s, c.want, api.OK)
		joinIs(t, c.want, c.s, api.OK)
	}
}

// P7.1: texts that are no paths, and names that are none, or too many, or too long together.
func TestNoPaths(t *testing.T) {
	long := strings.Repeat("a", 1<<20)
	cases := []string{
		"", "/", "//", "a/", "/a", "a//b", "a/b/", "/a/b", "a///b",
		".", "..", "...", "............", "a/.", "./a", "a/.../b", "a/..",
		"A", "a/B", "Z", " ", "a b", "a/ b", "a\\b", "a:b", "a~1.1", "a,b", "a+b", "a@b", "a`b", "a{b",
		"a\x00", "\x00", "a\n", "\na", "a/b\n", "a\x7f", "\xff", "a\x80", "a\xc3", "\xed\xa0\x80",
		"ä", "é/a", "a/日", "\u0660", "\uff10", "\uff41", "\u2024", "\u2215", "a\u2215b", "\u212a", "\ufffd", "\U0001d41a",
		twelve + "m", "a/" + twelve + "m", twelve + "m/a", ".............", long,
		"1/2/3/4/5/6/7", "1/2/3/4/5/6/", "/1/2/3/4/5/6", strings.Repeat("a/", 1<<19) + "a", strings.Repeat("/", 1<<20),
		// 41 bytes, of as few names as can have them, and of as many.
		twelve + "/" + twelve + "/" + twelve + "/zz",
		"aaaaaa/bbbbbb/cccccc/dddddd/eeeeee/ffffff",
		twelve + "/" + twelve + "/" + twelve + "/" + twelve,
		twelve + "/" + twelve + "/" + twelve + "/" + twelve + "/" + twelve + "/" + twelve,
		"a/" + long, long + "/a", long + "/" + long,
	}
	for _, s := range cases {
		namesAre(t, s, nil, api.ErrPath)
		joinIs(t, strings.Split(s, "/"), "", api.ErrPath)
		joinIs(t, []string{s}, "", api.ErrPath)
		joinIs(t, []string{"a", s}, "", api.ErrPath)
	}
}

// P7.1: whatever stands in a name, at its beginning, within it, and at its end.
func TestLetters(t *testing.T) {
	const good = "abcdefghijklmnopqrstuvwxyz0123456789.-_"
	for c := range 256 {
		b := string([]byte{byte(c)})
		is := strings.Contains(good, b)
		for _, name := range []string{b + "x", "x" + b + "x", "x" + b, b + b + "x"} {
			for _, l := range [][]string{{name}, {"y", name}, {name, "y"}, {"y", name, "z"}} {
				if is {
					namesAre(t, strings.Join(l, "/"), l, api.OK)
					joinIs(t, l, strings.Join(l, "/"), api.OK)
				} else {
					joinIs(t, l, "", api.ErrPath)
				}
			}
			textIs(t, name)
		}
	}
	for c := range rune(0x11000) {
		textIs(t, "a"+string(c))
	}
}

// P7.1: all texts of a few letters, and all of one letter that stand about the limits.
func TestTexts(t *testing.T) {
	for _, s := range texts("a.-/B", 6) {
		textIs(t, s)
	}
	for n := range 50 {
		for _, one := range []string{"a", ".", "a/", "/a", "ab/", "abcdef/", "abcdefg/", twelve + "/"} {
			s := strings.Repeat(one, n)
			for _, end := range []string{"", "/", "x", ".", ".."} {
				textIs(t, s+end)
			}
		}
	}
}

// P7.1: each length of each number of names, about the limits.
func TestLengths(t *testing.T) {
	for names := range 9 {
		for n := range 90 {
			// As even as can be: n bytes in so many names.
			var l []string
			for i := range names {
				l = append(l, strings.Repeat("x", (n+i)/names))
			}
			s, e := modelJoin(l)
			joinIs(t, l, s, e)
			textIs(t, strings.Join(l, "/"))
		}
	}
}

// P7.1: names that are none where the path of them all is one, and no names at all.
func TestJoin(t *testing.T) {
	cases := [][]string{
		{}, {""}, {"", ""}, {"a", ""}, {"", "a"}, {"a", "", "b"}, {"/"}, {"a", "/"},
		{"a/b"}, {"a", "b/c"}, {"a/b", "c"}, {"a/"}, {"/a"}, {"1/2/3/4/5/6"}, {"1", "2", "3/4", "5", "6"},
		{"a", "."}, {"..", "a"}, {"a", "B"}, {"a", "b\x00"}, {"1", "2", "3", "4", "5", "6", "7"}, {"1", "2", "3", "4", "5", "6", ""},
		slices.Repeat([]string{"a"}, 1<<16),
	}
	for _, l := range cases {
		joinIs(t, l, "", api.ErrPath)
	}
	if s, e := path.Join(); s != "" || e != api.ErrPath {
		t.Errorf("Join() = %q, %d, want ErrPath", s, int(e))
	}
	some := []string{"a", "bc", "", ".", "...", "a/b", "B", twelve, twelve + "m"}
	for _, a := range some {
		for _, b := range some {
			for _, c := range some {
				for _, l := range [][]string{{a, b}, {a, b, c}, {a, b, c, "d"}, {"1", "2", "3", a, b, c}, {"1", "2", "3", "4", a, b, c}} {
					s, e := modelJoin(l)
					joinIs(t, l, s, e)
				}
			}
		}
	}
}

// R3: what is handed in stays as it is, its spare room too, and is not kept; what is answered is new.
func TestNothingShared(t *testing.T) {
	room := []string{"a", "b", "c", "d"}
	s, e := path.Join(room[:2]...)
	if !slices.Equal(room, []string{"a", "b", "c", "d"}) {
		t.Errorf("Join left %q", room)
	}
	room[0], room[1] = "x", "y"
	if s != "a/b" || e != api.OK {
		t.Errorf("Join = %q, %d", s, int(e))
	}
	l, _ := path.Names("a/b")
	m, _ := path.Names("a/b")
	l[0], l[1] = "x", "y"
	if !slices.Equal(m, []string{"a", "b"}) {
		t.Errorf("another answer became %q", m)
	}
	namesAre(t, "a/b", []string{"a", "b"}, api.OK)
}

// P7.1 to P7.3, R1: whatever the texts are.
func FuzzPaths(f *testing.F) {
	for _, s := range []string{"", "a/b-c/d_1.x", "a//b", "a/.../b", "1/2/3/4/5/6/7", twelve + "m", "\xff/ä"} {
		f.Add(s, "a/b", "c")
	}
	f.Add("a", "ab", "a/b")
	f.Fuzz(func(t *testing.T, a, b, c string) {
		for _, s := range []string{a, b, c, a + "/" + b, a + "/" + b + "/" + c} {
			textIs(t, s)
		}
		for _, l := range [][]string{{a}, {a, b}, {a, b, c}, {a, a, b, b, c, c}} {
			s, e := modelJoin(l)
			joinIs(t, l, s, e)
		}
		back(t, a)
		for _, p := range [][3]string{{a, b, c}, {a, a + "/" + b, a + "/" + b + "/" + c}, {a, a + b, a + b + c}} {
			pairIs(t, p[0], p[1])
			pairIs(t, p[1], p[0])
			ordered(t, p[0], p[1], p[2])
		}
	})
}
