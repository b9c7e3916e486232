package journal_test

import (
	"slices"
	"testing"

	"lighterage/api"
	"lighterage/journal"
)

// doing is one call, of Append or of Rewrite.
type doing struct {
	rewrite bool
	l       []string
}

// to does it to a journal.
func (x doing) to(j *journal.Journal) api.Errno {
	if x.rewrite {
		return j.Rewrite(x.l...)
	}
	return j.Append(x.l...)
}

// behind are the records behind it.
func (x doing) behind(l []string) []string {
	if x.rewrite {
		return x.l
	}
	return append(slices.Clone(l), x.l...)
}

// toBoth does it to a journal and its model.
func (p pair) toBoth(x doing) api.Errno {
	p.t.Helper()
	if x.rewrite {
		return p.rewrite(x.l...)
	}
	return p.append(x.l...)
}

// calls are some, one behind the other: within a sector and over several, to either half, of nothing.
func calls() []doing {
	return []doing{
		{false, []string{"a"}},
		{false, []string{text(100), "b"}},
		{true, []string{"c", text(70)}},
		{false, []string{"d", "e"}},
		{true, nil},
		{false, []string{text(59)}},
		{false, []string{""}},
		{true, []string{text(130)}},
		{true, []string{"f"}},
		{false, []string{text(58), "g"}},
	}
}

// P5.3: an armed disk: each step of Append and of Rewrite in its order, however far it comes; what is told is the disk's error.
func TestKeepFalls(t *testing.T) {
	for _, l := range [][]string{nil, {"x"}, {text(58)}, {text(59)}, {text(20), text(150)}, {text(300)}} {
		for _, ahead := range []doing{{}, {false, []string{"ahead", text(90)}}, {true, []string{text(59)}}} {
			for _, rewrite := range []bool{false, true} {
				for n := 1; n <= 12; n++ {
					p := made(t, 20)
					p.toBoth(ahead)
					p.arm(n)
					p.toBoth(doing{rewrite, l})
				}
			}
		}
	}
}

// fallen does a call to a disk's journal, while the disk goes down at the n-th step, and tells of each that a crash may leave of the disk whether it is right; false where all steps were done.
func fallen(t *testing.T, p pair, x doing, n int, left func(pair, []string)) bool {
	t.Helper()
	d, before, after := p.d.Copy(), p.m.l, x.behind(p.m.l)
	j, _, _ := journal.Open(d)
	d.Arm(n)
	if x.to(j) == api.OK {
		d.Crash()
		has(t, d, after...)
		return false
	}
	for _, keep := range keeps(d) {
		c := d.Copy()
		c.Crash(keep...)
		q, e := open(t, c)
		if e != api.OK {
			t.Fatalf("down at %d, kept %v: Open = %d", n, keep, int(e))
		}
		want := before
		if q.j.Seq() != p.j.Seq() {
			want = after
		}
		has(t, c, want...)
		// To fall again is the same.
		c.Crash(1, 1, 1, 1)
		has(t, c, want...)
		left(q, want)
	}
	return true
}

// P5.5: whatever is kept, at whichever step it goes down, the call is done or not; and so it is of the call behind it, whichever that is.
func TestCrash(t *testing.T) {
	more := []doing{{false, []string{"more", text(60)}}, {true, []string{"again"}}}
	ahead := made(t, 10)
	for _, x := range calls() {
		for n := 1; ; n++ {
			goesOn := fallen(t, ahead, x, n, func(q pair, l []string) {
				for _, y := range more {
					for m := 1; fallen(t, q, y, m, func(r pair, _ []string) {
						want := doing{false, []string{"last"}}.behind(r.m.l)
						err(t, "Append", r.append("last"), api.OK)
						has(t, r.d, want...)
					}); m++ {
					}
				}
			})
			if !goesOn {
				break
			}
		}
		err(t, "the call", ahead.toBoth(x), api.OK)
	}
}

// P5.5: both outcomes come: nothing of the call where no head is kept, all of it where one is.
func TestCrashBoth(t *testing.T) {
	for _, x := range []doing{{false, []string{"x", text(70)}}, {true, []string{"x", text(70)}}} {
		for n := 1; n <= 6; n++ {
			for _, kept := range []int{0, 1} {
				p := made(t, 10)
				p.append("a")
				p.rewrite("b")
				d := p.d.Copy()
				j, _, _ := journal.Open(d)
				d.Arm(n)
				done := x.to(j) == api.OK
				d.Crash(kept, kept, kept)
				// Five steps: two sectors, a flush, the head and its flush.
				want := []string{"b"}
				if done || n == 5 && kept == 1 {
					want = x.behind(want)
				}
				if done != (n == 6) {
					t.Errorf("armed at %d: done %t", n, done)
				}
				has(t, d, want...)
			}
		}
	}
}

// P5.5: a journal that fell over and over has all that was answered, and of each call that was not all or nothing.
func TestCrashOften(t *testing.T) {
	d := formatted(t, 40)
	var want []string
	fell := [2]int{}
	next := chance(9)
	for range 400 {
		j, _, e := journal.Open(d)
		err(t, "Open", e, api.OK)
		x := doing{j.Room() < 200 || next(9) == 0, []string{text(next(150)), "x"}}
		d.Arm(1 + next(9))
		done := x.to(j) == api.OK
		seq := j.Seq()
		d.Crash(next(2), next(2), next(2), next(2), next(2))
		j, _, e = journal.Open(d)
		err(t, "Open", e, api.OK)
		if !done {
			fell[j.Seq()-seq]++
		}
		if done || j.Seq() > seq {
			want = x.behind(want)
		}
		has(t, d, want...)
	}
	if fell[0] == 0 || fell[1] == 0 {
		t.Errorf("fell %v times", fell)
	}
}

// chance makes a function that tells a number below the one that it is asked for, always the same ones.
func chance(seed uint64) func(int) int {
	return func(n int) int {
		seed = seed*6364136223846793005 + 1442695040888963407
		return int(seed>>33) % n
	}
}

// acts does what next says to a journal and its model; where the disk goes down it is opened anew.
func acts(t *testing.T, sectors, times int, next func(int) int) {
	p := made(t, sectors)
	for range times {
		x := doing{next(4) == 0, nil}
		for range next(4) {
			x.l = append(x.l, text(next(130)))
		}
		switch next(6) {
		default:
			p.toBoth(x)
		case 0:
			p.arm(next(9) - 1)
		case 1:
			p.crash(next(3)-1, next(3)-1, next(3)-1)
		}
		if p.d.Down() {
			p.crash(next(2), next(2), next(2), next(2), next(2), next(2))
			q, e := open(t, p.d)
			if e != api.OK {
				t.Fatalf("Open behind a crash: %d", int(e))
			}
			want := p.m.l
			if q.m.seq != p.m.seq {
				want = x.behind(want)
			}
			if !slices.Equal(q.m.l, want) || q.m.seq > p.m.seq+1 {
				t.Fatalf("behind a crash: %q, want %q", q.m.l, want)
			}
			q.m.d = p.m.d
			p = q
		}
	}
}

// P5.1 to P5.5: long lists of acts do to a journal what they do to its model.
func TestActs(t *testing.T) {
	next := chance(5)
	for range 60 {
		acts(t, 4+next(12), 80, next)
	}
}

// P5.1 to P5.5, R1: whatever is done.
func FuzzActs(f *testing.F) {
	f.Add(uint8(0), "")
	f.Add(uint8(8), "\x01\x02\x10\x20\x05\x00\x02\x03\x01\x10\x06\x01\x00\x00\x00")
	f.Fuzz(func(t *testing.T, sectors uint8, s string) {
		s = s[:min(len(s), 600)]
		next := func(n int) int {
			if s == "" {
				return 0
			}
			c := int(s[0])
			s = s[1:]
			return c % n
		}
		acts(t, 4+int(sectors%20), len(s)/3, next)
	})
}
