package update_test

import (
	"strings"
	"testing"

	"lighterage/api"
	"lighterage/update"
)

// long is a text of so many bytes.
func long(n int) string {
	return strings.Repeat("x", n)
}

// P16.1: which updates may be, and which error is the first.
func TestCheck(t *testing.T) {
	x, s := ver(1, 1), stamp(4, 2, 3)
	cases := []struct {
		u    api.Update
		want api.Errno
	}{
		{up(x, s, "a/b", "xyz"), api.OK},
		{up(x, s, "a", ""), api.OK},
		{gone(x, s, "a"), api.OK},
		{up(x, s, "a", long(199)), api.OK},
		{up(x, s, "a", long(200)), api.OK},
		{up(x, s, "a", "\x00\xff\n"), api.OK},
		{up(ver(64, most), stamp(most, 64, most), "a/b/c/d/e/f", "x"), api.OK},
		{api.Update{}, api.ErrArg},
		{up(ver(0, 1), s, "a", "x"), api.ErrArg},
		{up(ver(65, 1), s, "a", "x"), api.ErrArg},
		{up(ver(1, 0), s, "a", "x"), api.ErrArg},
		{up(x, stamp(4, 0, 3), "a", "x"), api.ErrArg},
		{up(x, stamp(4, 65, 3), "a", "x"), api.ErrArg},
		{up(x, stamp(4, 2, 0), "a", "x"), api.ErrArg},
		{up(x, stamp(0, 2, 3), "a", "x"), api.ErrArg},
		{up(x, stamp(-1, 2, 3), "a", "x"), api.ErrArg},
		{up(x, s, "", "x"), api.ErrPath},
		{up(x, s, "a/", "x"), api.ErrPath},
		{up(x, s, "..", "x"), api.ErrPath},
		{up(x, s, "A", "x"), api.ErrPath},
		{up(x, s, "a~1.1", "x"), api.ErrPath},
		{up(x, s, "a/b/c/d/e/f/g", "x"), api.ErrPath},
		{up(x, s, strings.Repeat("a", 13), "x"), api.ErrPath},
		{up(x, s, "a", long(201)), api.ErrBig},
		{up(x, s, "a", long(1<<20)), api.ErrBig},
		{api.Update{Item: x, Stamp: s, Path: "a", Data: "x", Dead: true}, api.ErrForm},
		{api.Update{Item: x, Stamp: s, Path: "a", Data: long(200), Dead: true}, api.ErrForm},
		// Of several the first one.
		{up(ver(0, 0), s, "", long(201)), api.ErrArg},
		{up(x, stamp(0, 0, 0), "", long(201)), api.ErrArg},
		{up(x, s, "", long(201)), api.ErrPath},
		{api.Update{Item: x, Stamp: s, Path: "/", Data: "x", Dead: true}, api.ErrPath},
		{api.Update{Item: x, Stamp: s, Path: "a", Data: long(201), Dead: true}, api.ErrBig},
		{api.Update{Item: x, Path: "a", Data: "x", Dead: true}, api.ErrArg},
	}
	for _, c := range cases {
		if e := update.Check(c.u); e != c.want {
			t.Errorf("Check(%v) = %d, want %d", c.u, int(e), int(c.want))
		}
		if e := update.CheckMeta(update.Meta(c.u)); e != c.want {
			t.Errorf("CheckMeta of the meta of %v = %d, want %d", c.u, int(e), int(c.want))
		}
		partsAre(t, c.u)
	}
}

// P16.1: which metas may be, and which error is the first.
func TestCheckMeta(t *testing.T) {
	x, s := ver(1, 1), stamp(4, 2, 3)
	cases := []struct {
		m    api.Meta
		want api.Errno
	}{
		{api.Meta{Item: x, Stamp: s, Path: "a/b", Size: 3}, api.OK},
		{api.Meta{Item: x, Stamp: s, Path: "a"}, api.OK},
		{api.Meta{Item: x, Stamp: s, Path: "a", Dead: true}, api.OK},
		{api.Meta{Item: x, Stamp: s, Path: "a", Size: 200}, api.OK},
		{api.Meta{}, api.ErrArg},
		{api.Meta{Item: ver(1, -1), Stamp: s, Path: "a"}, api.ErrArg},
		{api.Meta{Item: x, Stamp: stamp(4, 2, least), Path: "a"}, api.ErrArg},
		{api.Meta{Item: x, Stamp: stamp(least, 2, 3), Path: "a"}, api.ErrArg},
		{api.Meta{Item: x, Stamp: s}, api.ErrPath},
		{api.Meta{Item: x, Stamp: s, Path: "a b"}, api.ErrPath},
		{api.Meta{Item: x, Stamp: s, Path: "a", Size: 201}, api.ErrBig},
		{api.Meta{Item: x, Stamp: s, Path: "a", Size: most}, api.ErrBig},
		{api.Meta{Item: x, Stamp: s, Path: "a", Size: -1}, api.ErrForm},
		{api.Meta{Item: x, Stamp: s, Path: "a", Size: least}, api.ErrForm},
		{api.Meta{Item: x, Stamp: s, Path: "a", Size: 1, Dead: true}, api.ErrForm},
		{api.Meta{Item: x, Stamp: s, Path: "a", Size: 200, Dead: true}, api.ErrForm},
		{api.Meta{Item: x, Stamp: s, Path: "a", Size: -1, Dead: true}, api.ErrForm},
		// Of several the first one.
		{api.Meta{Item: ver(65, 1), Stamp: s, Size: 201}, api.ErrArg},
		{api.Meta{Item: x, Stamp: s, Path: "/", Size: 201, Dead: true}, api.ErrPath},
		{api.Meta{Item: x, Stamp: s, Path: "/", Size: -1}, api.ErrPath},
		{api.Meta{Item: x, Stamp: s, Path: "a", Size: 201, Dead: true}, api.ErrBig},
		{api.Meta{Item: x, Path: "a", Size: -1}, api.ErrArg},
	}
	for _, c := range cases {
		if e := update.CheckMeta(c.m); e != c.want {
			t.Errorf("CheckMeta(%v) = %d, want %d", c.m, int(e), int(c.want))
		}
		checkMetaIs(t, c.m)
	}
}

// paths are paths, and texts about their limits that are none.
func paths() []string {
	return []string{
		"a", "a/b", "a.b-c_9", "..a", "a/b/c/d/e/f", "aaaaaaaaaaaa", "aaaaaaaaaaaa/aaaaaaaaaaaa/aaaaaaaaaaaa/a",
		"", "/", "/a", "a/", "a//b", ".", "a/..", "a/b/c/d/e/f/g", "aaaaaaaaaaaaa", "aaaaaaaaaaaa/aaaaaaaaaaaa/aaaaaaaaaaaa/aa",
		"A", "a b", "a~1.1", "\xff", "ä", "a\x00", long(1 << 10),
	}
}

// P16.1, R5: numbers about all limits at each place, of updates and of metas, with all paths.
func TestCheckEdges(t *testing.T) {
	for _, p := range paths() {
		for _, dead := range []bool{false, true} {
			for _, n := range edges() {
				m := api.Meta{Item: ver(1, 1), Stamp: stamp(1, 1, 1), Path: p, Dead: dead}
				places := []*int{&m.Item.By, &m.Item.N, &m.By, &m.N, &m.Time, &m.Size}
				for _, place := range places {
					was := *place
					*place = n
					checkMetaIs(t, m)
					partsAre(t, api.Update{Item: m.Item, Stamp: m.Stamp, Path: p, Dead: dead})
					partsAre(t, api.Update{Item: m.Item, Stamp: m.Stamp, Path: p, Data: "x", Dead: dead})
					*place = was
				}
			}
		}
	}
}

// P16.1: data of each length about the limit, and sizes likewise.
func TestCheckLengths(t *testing.T) {
	for n := -300; n <= 600; n++ {
		for _, dead := range []bool{false, true} {
			checkMetaIs(t, api.Meta{Item: ver(2, 1), Stamp: stamp(1, 1, 1), Path: "a", Size: n, Dead: dead})
			if n >= 0 {
				// Bytes are counted, whatever letters they may be of.
				partsAre(t, api.Update{Item: ver(2, 1), Stamp: stamp(1, 1, 1), Path: "a", Data: strings.Repeat("ä\xff€", n)[:n], Dead: dead})
			}
		}
	}
}

// P16.1: all ways in which several errors apply at once.
func TestCheckFirst(t *testing.T) {
	for _, item := range []api.Ver{ver(1, 1), ver(0, 1), ver(1, 0)} {
		for _, s := range []api.Stamp{stamp(1, 1, 1), stamp(0, 1, 1), stamp(1, 65, 1), stamp(1, 1, -1)} {
			for _, p := range []string{"a", "", "a/"} {
				for _, n := range []int{0, 1, 200, 201, 1000} {
					for _, dead := range []bool{false, true} {
						partsAre(t, api.Update{Item: item, Stamp: s, Path: p, Data: long(n), Dead: dead})
						checkMetaIs(t, api.Meta{Item: item, Stamp: s, Path: p, Size: -n, Dead: dead})
					}
				}
			}
		}
	}
}
