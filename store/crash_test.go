package store_test

import (
	"slices"
	"testing"

	"lighterage/api"
	"lighterage/disk"
	"lighterage/store"
)

// keeps are lists of what a crash may keep: for a few sectors all there are, for many some.
func keeps(d *disk.Disk) [][]int {
	n := len(d.Dirty())
	var all [][]int
	for mask := range 1 << min(n, 5) {
		keep := make([]int, n+1)
		for i := range keep {
			keep[i] = mask >> (i % 5) & 1
		}
		all = append(all, keep)
	}
	return all
}

// transactions are some, one behind the other: in a sector and over several, for some of which the journal is rewritten.
func transactions() [][]store.Change {
	return [][]store.Change{
		{put("a", "1")},
		{put("b", text(100)), put("a", "2")},
		{gone("a"), put("c", text(40))},
		{put("c", text(41)), gone("x")},
		{gone("b"), put("d", ""), put("a", text(70))},
		append(slices.Repeat([]store.Change{put("a", text(4096))}, 17), put("a", "3"), put("b", "4")),
		{put("a", text(90))},
		{gone("a"), gone("b"), gone("c"), gone("d")},
		{put("e", text(150))},
		{put("e", text(20)), put("a", text(60))},
	}
}

// fallen does a transaction to a store of a disk, while that goes down at the n-th step, and tells of each that a crash may leave of the disk whether it is right; false where all steps were done. It counts which of both there was.
func fallen(p pair, l []store.Change, n int, counts *[2]int, left func(pair)) bool {
	p.t.Helper()
	d, was := p.d.Copy(), p.m.l
	s, _ := store.Open(d, p.m.quota)
	d.Arm(n)
	if s.Do(l...) == api.OK {
		return false
	}
	if n > 30 {
		p.t.Fatalf("%v is not done, however late the disk goes down", l)
	}
	for _, keep := range keeps(d) {
		c := d.Copy()
		c.Crash(keep...)
		q, e := open(p.t, c, p.m.quota)
		if e != api.OK {
			p.t.Fatalf("down at %d, kept %v: Open = %d", n, keep, int(e))
		}
		want, all := was, 0
		if q.m.j.Seq() != p.m.j.Seq() {
			want, all = behindAll(was, l), 1
		}
		counts[all]++
		q.has("behind a crash", want)
		// To fall again is the same.
		c.Crash(1, 1, 1, 1)
		q, e = open(p.t, c, p.m.quota)
		err(p.t, "Open", e, api.OK)
		q.has("behind another crash", want)
		left(q)
	}
	return true
}

// P6.5: whatever is kept, at whichever step it goes down, a transaction is done or not; and so is the one behind it.
func TestCrash(t *testing.T) {
	var counts [2]int
	more := [][]store.Change{{put("a", "more"), put("m", text(60))}, append(slices.Repeat([]store.Change{put("m", text(4096))}, 17), gone("m"))}
	ahead := made(t, 14, most)
	for _, l := range transactions() {
		for n := 1; fallen(ahead, l, n, &counts, func(q pair) {
			for _, y := range more {
				for m := 1; fallen(q, y, m, &counts, func(r pair) {
					want := behind(r.m.l, put("z", "last"))
					err(t, "Do", r.do(put("z", "last")), api.OK)
					r.again().has("behind all", want)
				}); m++ {
				}
			}
		}); n++ {
		}
		err(t, "Do", ahead.do(l...), api.OK)
	}
	if counts[0] == 0 || counts[1] == 0 {
		t.Errorf("nothing, and all: %v times", counts)
	}
}

// P6.5: a store that fell over and over has all that was answered, and of each transaction that was not all or nothing.
func TestCrashOften(t *testing.T) {
	p := made(t, 24, 500)
	var fell [2]int
	next := chance(3)
	for range 600 {
		l := some(next)
		p.arm(1 + next(9))
		e := p.do(l...)
		want, seq := p.m.l, p.m.j.Seq()
		p.crash(next(2), next(2), next(2), next(2), next(2))
		p, _ = open(t, p.d, 500)
		if e == api.ErrDown {
			fell[p.m.j.Seq()-seq]++
			if p.m.j.Seq() > seq {
				want = behindAll(want, l)
			}
		}
		p.has("behind a crash", want)
	}
	if fell[0] == 0 || fell[1] == 0 {
		t.Errorf("fell %v times", fell)
	}
}

// chance makes a function that tells a number below the one that it is asked for, always the same ones.
func chance(seed uint64) func(int) int {
	return func(n int) int {
		seed = seed*6364136223846793005 + 1442695040888963407
		return int(seed>>33) % n
	}
}

// some are changes as next says them, few of them not valid.
func some(next func(int) int) []store.Change {
	var l []store.Change
	for range 1 + next(4) {
		key := string(rune('a' + next(6)))
		switch next(12) {
		default:
			l = append(l, put(key, text(next(60))))
		case 0, 1, 2:
			l = append(l, gone(key))
		case 3:
			l = append(l, put(key, text(next(300))))
		case 4:
			l = append(l, put(text(next(35)), key))
		case 5:
			l = append(l, slices.Repeat([]store.Change{put(key, text(4090+next(8)))}, next(18))...)
		case 6:
			l = append(l, store.Change{Key: key, S: text(next(2)), Gone: true})
		}
	}
	return l
}

// acts does what next says to a store and its model; where the disk goes down it is opened anew.
func acts(t *testing.T, sectors, quota, times int, next func(int) int) {
	p := made(t, sectors, quota)
	for range times {
		l := some(next)
		switch next(8) {
		default:
			p.do(l...)
		case 0:
			p.arm(next(9) - 1)
		case 1:
			p.crash(next(3)-1, next(3)-1, next(3)-1)
		}
		if !p.s.Broken() {
			continue
		}
		p.crash(next(2), next(2), next(2), next(2), next(2), next(2))
		q, e := open(t, p.d, quota)
		if e != api.OK {
			t.Fatalf("Open behind a crash: %d", int(e))
		}
		want := p.m.l
		if q.m.j.Seq() != p.m.j.Seq() {
			want = behindAll(want, l)
		}
		q.has("behind a crash", want)
		p = q
	}
}

// P6.1 to P6.5: long lists of acts do to a store what they do to its model.
func TestActs(t *testing.T) {
	next := chance(5)
	for range 60 {
		acts(t, 4+next(16), next(600), 80, next)
	}
}

// P6.1 to P6.5, R1: whatever is done.
func FuzzActs(f *testing.F) {
	f.Add(uint8(0), uint16(0), "")
	f.Add(uint8(8), uint16(300), "\x01\x02\x10\x20\x05\x00\x02\x03\x01\x10\x06\x01\x00\x00\x00")
	f.Fuzz(func(t *testing.T, sectors uint8, quota uint16, s string) {
		s = s[:min(len(s), 600)]
		next := func(n int) int {
			if s == "" {
				return 0
			}
			c := int(s[0])
			s = s[1:]
			return c % n
		}
		acts(t, 4+int(sectors%30), int(quota), len(s)/4, next)
	})
}
