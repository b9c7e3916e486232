package disk_test

import (
	"math"
	"slices"
	"strings"
	"testing"

	"lighterage/api"
	"lighterage/disk"
)

// is tells whether a sector begins with s, and is 0 behind it.
func is(t *testing.T, d *disk.Disk, at int, s string) {
	t.Helper()
	if c, e := d.Read(at); c != padded(s) || e != api.OK {
		t.Errorf("Read(%d) = %q, %d, want %q", at, c, int(e), padded(s))
	}
}

// err tells whether an error is the one that it should be.
func err(t *testing.T, what string, e, want api.Errno) {
	t.Helper()
	if e != want {
		t.Errorf("%s: %d, want %d", what, int(e), int(want))
	}
}

// The chapter's example.
func TestExample(t *testing.T) {
	d, _ := disk.New(2)
	d.Write(1, "a")
	d.Write(1, "b")
	d.Crash(1)
	is(t, d, 1, "a")
}

// P3.1: from 1 to 4096 sectors, all of them 0.
func TestNew(t *testing.T) {
	for _, n := range []int{0, -1, api.MaxSectors + 1, math.MinInt, math.MaxInt} {
		if d, e := disk.New(n); d != nil || e != api.ErrArg {
			t.Errorf("New(%d) = %v, %d, want ErrArg", n, d, int(e))
		}
	}
	for _, n := range []int{1, 2, 64, api.MaxSectors - 1, api.MaxSectors} {
		d := made(t, n).d
		is(t, d, 0, "")
		is(t, d, n-1, "")
	}
}

// P3.1: what is done with one disk, another one has not.
func TestDisksApart(t *testing.T) {
	a, b := made(t, 2), made(t, 2)
	a.write(0, "a")
	a.arm(1)
	alike(t, "the other disk", b.d, b.m)
	b.flush()
	a.flush()
	alike(t, "the other disk", b.d, b.m)
}

// P3.2: the last one that was written is read, with zeros behind it, whether it is flushed or not.
func TestWriteRead(t *testing.T) {
	p := made(t, 3)
	full := strings.Repeat("f", api.Sector)
	for _, s := range []string{"one", full, "", "x", full[1:], "\x00\xff", "a\x00"} {
		for range 2 {
			err(t, "Write", p.write(1, s), api.OK)
			is(t, p.d, 1, s)
		}
		err(t, "Flush", p.flush(), api.OK)
		is(t, p.d, 1, s)
	}
	is(t, p.d, 0, "")
	is(t, p.d, 2, "")
	p.write(2, full)
	p.write(0, "0")
	is(t, p.d, 0, "0")
	is(t, p.d, 2, full)
}

// P3.2: by a flush the last pending contents are safe, and nothing of what was ahead of them comes back.
func TestFlush(t *testing.T) {
	p := made(t, 4)
	p.flush() // of nothing
	p.write(3, "a")
	p.write(0, "b")
	p.write(3, "c")
	p.flush()
	if l := p.d.Dirty(); len(l) != 0 {
		t.Errorf("dirty %v behind Flush", l)
	}
	p.crash(0, 0)
	is(t, p.d, 3, "c")
	is(t, p.d, 0, "b")
	p.crash(1, 2, 3)
	is(t, p.d, 3, "c")
	is(t, p.d, 0, "b")
}

// P3.2: each error, ahead of those that come behind it; none counts as a call.
func TestErrors(t *testing.T) {
	big := strings.Repeat("b", api.Sector+1)
	p := made(t, 2)
	p.arm(2)
	for _, at := range []int{2, 3, -1, math.MinInt, math.MaxInt} {
		for _, s := range []string{"", "a", big} {
			err(t, "Write of no sector", p.write(at, s), api.ErrRange)
		}
		if s, e := p.d.Read(at); s != "" || e != api.ErrRange {
			t.Errorf("Read(%d) = %q, %d, want ErrRange", at, s, int(e))
		}
	}
	err(t, "Write of 65 bytes", p.write(0, big), api.ErrBig)
	err(t, "Write of very many bytes", p.write(1, strings.Repeat(big, 2000)), api.ErrBig)
	if n := p.d.Calls(); n != 0 {
		t.Errorf("%d calls, want 0", n)
	}
	err(t, "the first call", p.write(0, "a"), api.OK)
	err(t, "the armed one", p.write(1, "b"), api.ErrDown)
	for _, at := range []int{0, 1, 2, -1, math.MinInt, math.MaxInt} {
		err(t, "Write while down", p.write(at, "a"), api.ErrDown)
		err(t, "Write while down", p.write(at, big), api.ErrDown)
		if s, e := p.d.Read(at); s != "" || e != api.ErrDown {
			t.Errorf("Read(%d) = %q, %d while down, want ErrDown", at, s, int(e))
		}
	}
	err(t, "Flush while down", p.flush(), api.ErrDown)
	if n := p.d.Calls(); n != 2 {
		t.Errorf("%d calls, want 2", n)
	}
}

// P3.2, P3.4: of a disk that is nil.
func TestNil(t *testing.T) {
	var d *disk.Disk
	d.Arm(1)
	d.Crash()
	d.Crash(1, 2)
	for _, at := range []int{0, -1, 5} {
		err(t, "Write of nil", d.Write(at, ""), api.ErrNil)
		err(t, "Write of nil", d.Write(at, strings.Repeat("b", api.Sector+1)), api.ErrNil)
		if s, e := d.Read(at); s != "" || e != api.ErrNil {
			t.Errorf("Read of nil: %q, %d", s, int(e))
		}
	}
	err(t, "Flush of nil", d.Flush(), api.ErrNil)
	if !d.Down() || d.Len() != 0 || d.Calls() != 0 || len(d.Dirty()) != 0 || d.Copy() != nil {
		t.Errorf("nil: %t, %d, %d, %v, %v", d.Down(), d.Len(), d.Calls(), d.Dirty(), d.Copy())
	}
}

// P3.3: a disk goes down at the n-th call from now on, which is not done, be it Write or Flush; reading does not count.
func TestArm(t *testing.T) {
	for n := 1; n <= 6; n++ {
		for ahead := range 3 {
			p := made(t, 3)
			for range ahead {
				p.write(0, "ahead")
			}
			p.arm(n)
			for i := 1; i <= n; i++ {
				if p.d.Down() {
					t.Errorf("down ahead of call %d of %d", i, n)
				}
				want := api.OK
				if i == n {
					want = api.ErrDown
				}
				if i%2 == 0 {
					err(t, "Flush", p.flush(), want)
				} else {
					err(t, "Write", p.write(i%3, "call"), want)
				}
			}
			if !p.d.Down() || p.d.Calls() != ahead+n {
				t.Errorf("down %t behind %d calls", p.d.Down(), p.d.Calls())
			}
			p.crash(1, 1, 1)
		}
	}
}

// P3.3: the armed call is not done: what would be written is nowhere, what would be flushed is pending still.
func TestArmedCall(t *testing.T) {
	p := made(t, 2)
	p.write(0, "old")
	p.flush()
	p.write(0, "new")
	p.arm(1)
	err(t, "the armed Write", p.write(0, "never"), api.ErrDown)
	p.crash(2)
	is(t, p.d, 0, "old")
	p.write(0, "new")
	p.arm(1)
	err(t, "the armed Flush", p.flush(), api.ErrDown)
	if l := p.d.Dirty(); !slices.Equal(l, []int{0}) {
		t.Errorf("dirty %v, want 0", l)
	}
	p.crash()
	is(t, p.d, 0, "old")
}

// P3.3: below 1 it is armed for none, and the last Arm counts alone.
func TestArmAgain(t *testing.T) {
	for _, none := range []int{0, -1, math.MinInt} {
		p := made(t, 1)
		p.arm(none)
		p.write(0, "a")
		p.arm(1)
		p.arm(none)
		for range 5 {
			err(t, "Write", p.write(0, "b"), api.OK)
		}
	}
	p := made(t, 1)
	p.arm(3)
	p.write(0, "a")
	p.arm(2)
	err(t, "the first call", p.flush(), api.OK)
	err(t, "the second call", p.flush(), api.ErrDown)
	p.crash()
	p.arm(1)
	p.arm(4)
	for range 3 {
		err(t, "ahead of the fourth call", p.flush(), api.OK)
	}
	err(t, "the fourth call", p.flush(), api.ErrDown)
}

// P3.3: a call that is very far away does not come, whatever the sum of calls would be.
func TestArmFar(t *testing.T) {
	for _, n := range []int{math.MaxInt, math.MaxInt - 1, math.MaxInt32 + 1} {
		p := made(t, 1)
		p.write(0, "a")
		p.write(0, "b")
		p.arm(n)
		for range 10 {
			err(t, "Write", p.write(0, "c"), api.OK)
			err(t, "Flush", p.flush(), api.OK)
		}
	}
}

// P3.3: while it is down, to arm it does not start it; behind a crash it is armed for no call.
func TestCrashDisarms(t *testing.T) {
	p := made(t, 1)
	p.arm(2)
	p.crash()
	for range 3 {
		err(t, "behind a crash while armed", p.flush(), api.OK)
	}
	p.arm(1)
	p.flush()
	for _, n := range []int{1, 0, -1, 5} {
		p.arm(n)
		err(t, "armed while down", p.flush(), api.ErrDown)
	}
	p.crash()
	for range 6 {
		err(t, "behind a crash while down", p.write(0, "a"), api.OK)
	}
}

// P3.3: which one is kept, of three that are pending and the safe one.
func TestKeep(t *testing.T) {
	cases := []struct {
		keep []int
		want string
	}{
		{nil, "safe"},
		{[]int{0}, "safe"},
		{[]int{1}, "one"},
		{[]int{2}, "two"},
		{[]int{3}, "three"},
		{[]int{4}, "safe"},
		{[]int{5}, "one"},
		{[]int{7}, "three"},
		{[]int{-1}, "one"},
		{[]int{-2}, "two"},
		{[]int{-3}, "three"},
		{[]int{-4}, "safe"},
		{[]int{-5}, "one"},
		{[]int{math.MaxInt}, "three"},
		{[]int{math.MaxInt - 1}, "two"},
		{[]int{math.MinInt}, "safe"},
		{[]int{math.MinInt + 1}, "three"},
		{[]int{2, 1, 3}, "two"},
	}
	for _, c := range cases {
		for _, falls := range []bool{false, true} {
			p := made(t, 2)
			p.write(1, "safe")
			p.flush()
			for _, s := range []string{"one", "two", "three"} {
				p.write(1, s)
			}
			if falls {
				p.arm(1)
				p.write(0, "x")
			}
			p.crash(c.keep...)
			is(t, p.d, 1, c.want)
			if p.d.Down() || len(p.d.Dirty()) != 0 {
				t.Errorf("down %t, dirty %v behind a crash", p.d.Down(), p.d.Dirty())
			}
		}
	}
}

// P3.3: of a list whose length does not divide 2^64: the least number's absolute value is 2^63, which is 2 modulo 3.
func TestKeepLeast(t *testing.T) {
	p := made(t, 1)
	p.write(0, "one")
	p.write(0, "two")
	p.crash(math.MinInt)
	is(t, p.d, 0, "two")
}

// P3.3: numbers go to the sectors that have something pending, by rising sectors, in whatever order these were written; where there is no number the safe one stays.
func TestKeepInOrder(t *testing.T) {
	for _, order := range [][]int{{0, 3, 5}, {5, 3, 0}, {3, 0, 5}} {
		for _, keep := range [][]int{{1, 0, 1}, {0, 1, 0}, {0, 0, 1}, {1}, {0, 1}, {1, 1, 1, 1, 1}, {}, {0, 0, 0, 1}} {
			p := made(t, 6)
			for at := range 6 {
				p.write(at, "old")
			}
			p.flush()
			for _, at := range order {
				p.write(at, "new")
			}
			p.crash(keep...)
			for i, at := range []int{0, 3, 5} {
				want := "old"
				if i < len(keep) && keep[i] == 1 {
					want = "new"
				}
				is(t, p.d, at, want)
			}
			for _, at := range []int{1, 2, 4} {
				is(t, p.d, at, "old")
			}
		}
	}
}

// P3.3: the same bytes written again are another one of the list.
func TestKeepSame(t *testing.T) {
	p := made(t, 1)
	for _, s := range []string{"a", "a", "", "b"} {
		p.write(0, s)
	}
	q := p.copy()
	p.crash(2)
	is(t, p.d, 0, "a")
	q.crash(3)
	is(t, q.d, 0, "")
}

// P3.4: dirty sectors by rising numbers, each once, and a list that is its caller's own.
func TestDirty(t *testing.T) {
	p := made(t, api.MaxSectors)
	for _, at := range []int{api.MaxSectors - 1, 7, 0, 7, 300, 1} {
		if e := p.d.Write(at, "x"); e != api.OK {
			t.Fatal(int(e))
		}
	}
	want := []int{0, 1, 7, 300, api.MaxSectors - 1}
	for range 2 {
		l := p.d.Dirty()
		if !slices.Equal(l, want) {
			t.Errorf("dirty %v, want %v", l, want)
		}
		clear(l)
	}
	p.d.Arm(1)
	p.d.Flush()
	if l := p.d.Dirty(); !slices.Equal(l, want) {
		t.Errorf("dirty %v while down, want %v", l, want)
	}
	p.d.Crash()
	if l := p.d.Dirty(); len(l) != 0 {
		t.Errorf("dirty %v behind a crash", l)
	}
}

// P3.4: a copy has all that the disk has, and goes its own way.
func TestCopy(t *testing.T) {
	p := made(t, 3)
	p.write(0, "safe")
	p.flush()
	for _, s := range []string{"a", "b", "c"} {
		p.write(0, s)
	}
	p.arm(2)
	q := p.copy()
	// Into the room that lists of one origin could share.
	p.write(0, "p")
	q.write(0, "q")
	alike(t, "the first one", p.d, p.m)
	p.write(1, "never")
	if !p.d.Down() || q.d.Down() {
		t.Error("the copy goes down with the disk")
	}
	down := p.copy()
	q.arm(0)
	q.flush()
	p.crash(1)
	alike(t, "the copy", q.d, q.m)
	is(t, p.d, 0, "a")
	is(t, q.d, 0, "q")
	if !down.d.Down() || len(down.d.Dirty()) != 1 {
		t.Error("the copy of a disk that was down")
	}
	down.crash(4)
	is(t, down.d, 0, "p")
	q.write(2, "z")
	alike(t, "the first one", p.d, p.m)
	alike(t, "the third one", down.d, down.m)
}
