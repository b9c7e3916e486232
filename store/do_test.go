package store_test

import (
	"slices"
	"strings"
	"testing"

	"lighterage/api"
	"lighterage/disk"
	"lighterage/store"
)

// P6.2: changes in their order; what is set, set again, gone, and set anew.
func TestDo(t *testing.T) {
	p := made(t, 30, most)
	for _, c := range []struct{ l, want []store.Change }{
		{[]store.Change{put("b", "1")}, []store.Change{put("b", "1")}},
		{[]store.Change{put("b", "2"), put("a", "")}, []store.Change{put("a", ""), put("b", "2")}},
		{[]store.Change{put("b", "3"), put("b", "4")}, []store.Change{put("a", ""), put("b", "4")}},
		{[]store.Change{gone("x")}, []store.Change{put("a", ""), put("b", "4")}},
		{[]store.Change{gone("b"), put("b", "")}, []store.Change{put("a", ""), put("b", "")}},
		{[]store.Change{put("b", text(300)), gone("b"), gone("a")}, nil},
		{[]store.Change{gone("a"), put(text(32), "\x00\xff")}, []store.Change{put(text(32), "\x00\xff")}},
		{[]store.Change{gone(text(32))}, nil},
	} {
		err(t, "Do", p.do(c.l...), api.OK)
		p.has("behind Do", c.want)
	}
}

// wrongLists are lists of changes that are not valid, too few or too many.
func wrongLists() [][]store.Change {
	key, s := text(33), text(4097)
	good := put("a", "1")
	l := [][]store.Change{nil, slices.Repeat([]store.Change{good}, 1025), slices.Repeat([]store.Change{gone("a")}, 5000)}
	for _, bad := range []store.Change{
		{}, {Gone: true}, put("", "x"), put(key, ""), put(strings.Repeat(key, 2000), ""), gone(key), put("a", s), put("a", strings.Repeat(s, 100)),
		{Key: "a", S: "x", Gone: true}, {Key: "a", S: s, Gone: true}, {Key: text(32), S: "\x00", Gone: true},
	} {
		l = append(l, []store.Change{bad}, []store.Change{bad, good}, []store.Change{good, bad}, append(slices.Repeat([]store.Change{good}, 1023), bad))
	}
	return l
}

// P6.2: what is wrong is told, and nothing is changed; also ahead of the quota, and of what there is room for.
func TestDoArg(t *testing.T) {
	for _, quota := range []int{most, 0} {
		p := made(t, 6, quota)
		p.do(put("b", text(20)))
		for _, l := range wrongLists() {
			err(t, "Do", p.do(l...), api.ErrArg)
		}
		if p.s.Broken() {
			t.Error("broken, where nothing was done")
		}
	}
}

// P6.2: the greatest of all that is valid.
func TestDoGreatest(t *testing.T) {
	p := made(t, 400, most)
	err(t, "Do", p.do(put(text(32), text(4096))), api.OK)
	err(t, "Do", p.do(put(text(1), text(4096)), put(text(31), "")), api.OK)
	err(t, "Do of 1024", p.do(slices.Repeat([]store.Change{put("a", "1"), gone("a")}, 512)...), api.OK)
	err(t, "Do of 1024", p.do(slices.Repeat([]store.Change{gone("a"), put("a", "2")}, 512)...), api.OK)
	err(t, "Do", p.do(gone(text(32))), api.OK)
	p.has("behind all", []store.Change{put("0", text(4096)), put(text(31), ""), put("a", "2")})
}

// P6.2: keys and values count for the quota, up to it, in what is there behind all changes.
func TestQuota(t *testing.T) {
	for quota := range 40 {
		p := made(t, 20, quota)
		for n := range 45 {
			q := p.again()
			want := api.OK
			if n+3 > quota {
				want = api.ErrQuota
			}
			err(t, "Do", q.do(put("key", text(n))), want)
			q = p.again()
			err(t, "Do", q.do(put("k", text(30)), put("key", text(n)), gone("k")), want)
		}
	}
	p := made(t, 30, 20)
	for _, c := range []struct {
		l   []store.Change
		err api.Errno
	}{
		{[]store.Change{put("k1", text(10))}, api.OK},
		{[]store.Change{put("k2", text(7))}, api.ErrQuota},
		{[]store.Change{put("k2", text(6))}, api.OK},
		{[]store.Change{put("x", "")}, api.ErrQuota},
		{[]store.Change{gone("x")}, api.OK},
		{[]store.Change{put("k1", text(11))}, api.ErrQuota},
		{[]store.Change{put("k1", text(11)), put("k2", text(5))}, api.OK},
		{[]store.Change{put("k2", text(6)), put("k1", text(10))}, api.OK},
		{[]store.Change{gone("k1"), put("k3", text(11))}, api.ErrQuota},
		{[]store.Change{gone("k1"), put("k3", text(10))}, api.OK},
		{[]store.Change{gone("k3"), gone("k2")}, api.OK},
		{[]store.Change{put(text(20), "")}, api.OK},
		{[]store.Change{gone(text(20)), put(text(21), "")}, api.ErrQuota},
	} {
		err(t, "Do", p.do(c.l...), c.err)
	}
}

// P6.2: where there is more than the quota, what makes it no more may be done.
func TestQuotaBelow(t *testing.T) {
	p := made(t, 30, 100)
	p.do(put("a", text(40)), put("b", text(40)))
	p, _ = open(t, p.d, 50)
	for _, c := range []struct {
		l   []store.Change
		err api.Errno
	}{
		{[]store.Change{put("a", text(41))}, api.ErrQuota},
		{[]store.Change{put("c", "")}, api.ErrQuota},
		{[]store.Change{put("a", strings.Repeat("z", 40))}, api.OK},
		{[]store.Change{put("a", text(41)), put("b", text(39))}, api.OK},
		{[]store.Change{put("a", text(41)), put("b", text(40))}, api.ErrQuota},
		{[]store.Change{gone("x")}, api.OK},
		{[]store.Change{put("b", text(38))}, api.OK},
		{[]store.Change{put("b", text(39))}, api.ErrQuota},
		{[]store.Change{gone("b")}, api.OK},
		{[]store.Change{put("b", text(8))}, api.ErrQuota},
		{[]store.Change{put("b", text(7))}, api.OK},
	} {
		err(t, "Do", p.do(c.l...), c.err)
	}
	// As great as it may be, of no bytes at all.
	p, _ = open(t, p.d, 0)
	err(t, "Do", p.do(put("b", text(8))), api.ErrQuota)
	err(t, "Do", p.do(gone("a"), gone("b")), api.OK)
	err(t, "Do", p.do(put("b", "")), api.ErrQuota)
}

// P6.2: values, each as a record of its own, up to just what a half has room for, and one byte more; Check does not ask for it.
func TestFull(t *testing.T) {
	for _, sectors := range []int{4, 5, 6, 7, 9} {
		half := (sectors - 2) / 2 * 64
		for _, ahead := range [][]store.Change{nil, {put("a", "")}, {put("a", text(20)), put("b", text(15))}} {
			p := made(t, sectors, most)
			if len(ahead) > 0 {
				err(t, "Do", p.do(ahead...), api.OK)
			}
			_, used := records(ahead)
			for n := range half {
				want := api.OK
				if used+len(framed(txn(put("key", text(n))))) > half {
					want = api.ErrFull
				}
				q := p.again()
				err(t, "Check", q.s.Check(put("key", text(n))), api.OK)
				err(t, "Do", q.do(put("key", text(n))), want)
				if q.s.Broken() {
					t.Fatal("broken, where nothing was done")
				}
				// It is what is there behind all changes that counts.
				err(t, "Do", q.do(put("long", text(500)), put("key", text(n)), gone("long")), want)
			}
		}
	}
}

// P6.2: the quota is told ahead of what there is room for.
func TestFullQuota(t *testing.T) {
	p := made(t, 4, 100)
	err(t, "Do", p.do(put("a", text(98))), api.ErrFull)
	err(t, "Do", p.do(put("a", text(99))), api.ErrFull)
	err(t, "Do", p.do(put("a", text(100))), api.ErrQuota)
}

// P6.2: on the greatest disk a half has room for more than a journal takes in one call: that is the limit then.
func TestFullBlob(t *testing.T) {
	var l []store.Change
	for i := range 15 {
		l = append(l, put("k"+string(rune('a'+i)), text(4096)))
	}
	_, used := records(l)
	rest := api.MaxBlob - used - len(framed(txn(put("k", text(1000))))) + 1000
	for _, sectors := range []int{2050, 2051, 2052, api.MaxSectors} {
		p := made(t, sectors, most)
		for i := range l {
			err(t, "Do", p.do(l[i]), api.OK)
		}
		for _, c := range []struct {
			n   int
			err api.Errno
		}{{rest + 1, api.ErrFull}, {4096, api.ErrFull}, {rest, api.OK}, {rest + 1, api.ErrFull}, {rest, api.OK}} {
			err(t, "Do", p.do(put("k", text(c.n))), c.err)
		}
		err(t, "Do", p.do(put("l", "")), api.ErrFull)
		err(t, "Do", p.do(gone("ka"), put("l", text(4000))), api.OK)
	}
	// A sector less, and the half is the limit.
	p := made(t, 2048, most)
	err(t, "Do", p.do(l...), api.OK)
	err(t, "Do", p.do(put("k", text(rest))), api.ErrFull)
	err(t, "Do", p.do(put("k", text(rest-64))), api.OK)
}

// P6.2: transactions stand one behind the other, till there is no room; then the values alone do, each in its record, by rising keys.
func TestRewrite(t *testing.T) {
	for _, sectors := range []int{4, 6, 10, 30} {
		p := made(t, sectors, most)
		used, rewritten := 0, 0
		for i := range 250 {
			l := []store.Change{put(string(rune('c'-i%3)), text(i%7)), gone("c")}
			half, laid := (sectors-2)/2*64, len(framed(txn(l...)))
			err(t, "Do", p.do(l...), api.OK)
			if used += laid; used > half {
				rewritten++
				_, used = records(p.m.l)
			}
			if p.m.j.Used() != used {
				t.Fatalf("%d sectors, %d: %d bytes are used, want %d", sectors, i, p.m.j.Used(), used)
			}
		}
		if rewritten < 2 {
			t.Errorf("%d sectors: %d times rewritten", sectors, rewritten)
		}
	}
}

// P6.2: transactions that are more than leb lays, or than frame does, of which little stays.
func TestRewriteBig(t *testing.T) {
	for _, sectors := range []int{4, 6, 2052, api.MaxSectors} {
		p := made(t, sectors, most)
		err(t, "Do", p.do(put("old", "1")), api.OK)
		l := slices.Repeat([]store.Change{put("a", text(4096))}, 15)
		one := len(txn(l...)) / 15
		// What is about the limits, of leb and of frame, and what is far beyond them.
		for n := api.MaxBlob - 15*one - 12; n <= api.MaxBlob-15*one+2; n++ {
			s := text(n - len(txn(put("b", text(2000)), put("a", ""), gone("b"))) + 2000)
			err(t, "Do", p.do(append(slices.Clone(l), put("b", s), put("a", ""), gone("b"))...), api.OK)
			p.has("behind Do", []store.Change{put("a", ""), put("old", "1")})
		}
		l = append(slices.Repeat(l, 60), put("a", "2"))
		err(t, "Do", p.do(l...), api.OK)
		err(t, "Do", p.do(gone("old")), api.OK)
		p.has("behind Do", []store.Change{put("a", "2")})
	}
}

// P6.2: an error of the journal, at whichever step of Append or of Rewrite: the store is broken, has what it had, and stays so.
func TestBroken(t *testing.T) {
	long := append(slices.Repeat([]store.Change{put("a", text(4096))}, 17), put("a", "2"))
	for _, l := range [][]store.Change{{put("a", "2")}, {gone("a"), put("b", text(50)), gone("b"), put("c", text(70)), gone("c")}, long} {
		for n := 1; n <= 6; n++ {
			p := made(t, 8, 100)
			p.do(put("a", "1"), put("x", text(60)))
			p.arm(n)
			e := p.do(l...)
			if e == api.OK {
				if n < 4 {
					t.Errorf("armed at %d: done", n)
				}
				continue
			}
			err(t, "Do", e, api.ErrDown)
			for range 2 {
				// Ahead of all else that is wrong.
				for _, l := range append(wrongLists(), []store.Change{put("a", "3")}, []store.Change{put("a", text(1000))}) {
					err(t, "Do while broken", p.do(l...), api.ErrDown)
				}
				if !p.s.Broken() {
					t.Error("not broken")
				}
				p.has("broken", []store.Change{put("a", "1"), put("x", text(60))})
				p.crash()
			}
			q := p.again()
			err(t, "Do", q.do(put("a", "4")), api.OK)
		}
	}
}

// P6.2: while the disk is down, whatever can be told without it is.
func TestDown(t *testing.T) {
	p := made(t, 6, 200)
	p.do(put("a", "1"))
	p.arm(1)
	p.d.Flush()
	p.m.d.Flush()
	err(t, "Check", p.s.Check(put("a", "2")), api.OK)
	err(t, "Do", p.do(), api.ErrArg)
	err(t, "Do", p.do(put("a", text(200))), api.ErrQuota)
	err(t, "Do", p.do(put("a", text(199))), api.ErrFull)
	if p.s.Broken() {
		t.Error("broken, where nothing was done")
	}
	err(t, "Do", p.do(put("a", "2")), api.ErrDown)
	if !p.s.Broken() {
		t.Error("not broken")
	}
}

// P6.2: a journal that has no number left: that is its error, and breaks the store, whether it is appended to or rewritten.
func TestCount(t *testing.T) {
	was := framed(txn(put("a", "1")))
	long := append(slices.Repeat([]store.Change{put("a", text(4096))}, 17), put("a", "2"))
	for _, l := range [][]store.Change{{put("a", "2")}, {gone("a")}, {put("a", text(30))}, {put("b", text(2000)), gone("b")}, long} {
		d, _ := disk.New(6)
		d.Write(1, headed(api.MaxCount-1, len(was)))
		d.Write(2, was)
		d.Flush()
		p, e := open(t, d, most)
		err(t, "Open", e, api.OK)
		err(t, "Do", p.do(put("a", "2")), api.OK)
		err(t, "Do of nothing", p.do(), api.ErrArg)
		err(t, "Do", p.do(put("a", text(200))), api.ErrFull)
		err(t, "Check", p.s.Check(l...), api.OK)
		if p.s.Broken() {
			t.Error("broken, where nothing was done")
		}
		err(t, "Do", p.do(l...), api.ErrCount)
		err(t, "Do", p.do(l...), api.ErrDown)
		p.has("broken", []store.Change{put("a", "2")})
	}
}

// P6.2: Check changes nothing, however often it is asked.
func TestCheck(t *testing.T) {
	p := made(t, 8, 50)
	p.do(put("a", "1"))
	for range 3 {
		err(t, "Check", p.s.Check(put("a", "2"), put("b", text(40))), api.OK)
		err(t, "Check", p.s.Check(gone("a")), api.OK)
		err(t, "Check", p.s.Check(put("b", text(48))), api.ErrQuota)
		p.alike("behind Check")
	}
}

// P6.4: where all is full, what makes no value longer and adds none may be done over and over.
func TestSpace(t *testing.T) {
	for _, sectors := range []int{4, 5, 6, 8, 20} {
		p := made(t, sectors, most)
		full := false
		for i := range 40 {
			n := 30
			for n >= 0 && p.do(put("k"+string(rune('a'+i)), text(n))) == api.ErrFull {
				n--
			}
			full = n < 0
			if full {
				break
			}
		}
		if !full {
			t.Fatalf("%d sectors: not full", sectors)
		}
		next := chance(uint64(sectors))
		for range 200 {
			var l []store.Change
			for range 1 + next(4) {
				c := p.m.l[next(len(p.m.l))]
				l = append(l, put(c.Key, strings.Repeat("z", len(c.S)-next(2)*next(len(c.S)+1))))
			}
			// Whatever becomes of it meanwhile.
			if next(3) == 0 {
				l = append([]store.Change{gone(l[0].Key), put("x", text(next(900))), put(l[0].Key, text(next(900))), gone("x")}, l...)
			}
			if next(20) == 0 && len(p.m.l) > 1 {
				l = append(l, gone(l[0].Key))
			}
			err(t, "Do", p.do(l...), api.OK)
		}
	}
}
