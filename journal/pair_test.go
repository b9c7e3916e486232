package journal_test

import (
	"slices"
	"testing"

	"lighterage/api"
	"lighterage/disk"
	"lighterage/journal"
)

// contents are all sectors of a disk, behind a crash that keeps so much.
func contents(d *disk.Disk, keep ...int) []string {
	c := d.Copy()
	if len(keep) > 0 || c.Down() {
		c.Crash(keep...)
	}
	var l []string
	for at := range c.Len() {
		s, _ := c.Read(at)
		l = append(l, s)
	}
	return l
}

// keeps are lists of what a crash may keep: for a few sectors all there are, for many some.
func keeps(d *disk.Disk) [][]int {
	n := len(d.Dirty())
	var all [][]int
	for mask := range 1 << min(n, 5) {
		keep := make([]int, n+1)
		for i := range keep {
			keep[i] = mask >> (i % 5) & 1
		}
		all = append(all, keep)
	}
	return all
}

// sameDisk tells whether two disks are alike, in what was written, and in what a crash may keep of it.
func sameDisk(t *testing.T, what string, got, want *disk.Disk) {
	t.Helper()
	if got.Calls() != want.Calls() || got.Down() != want.Down() || !slices.Equal(got.Dirty(), want.Dirty()) {
		t.Fatalf("%s: %d calls, down %t, dirty %v, want %d, %t, %v", what, got.Calls(), got.Down(), got.Dirty(), want.Calls(), want.Down(), want.Dirty())
	}
	if want.Down() {
		for _, keep := range keeps(want) {
			if !slices.Equal(contents(got, keep...), contents(want, keep...)) {
				t.Fatalf("%s: what a crash keeps by %v is other than it should be", what, keep)
			}
		}
		return
	}
	g, w := contents(got), contents(want)
	for at := range w {
		if g[at] != w[at] {
			t.Fatalf("%s: sector %d is %x, want %x", what, at, g[at], w[at])
		}
	}
}

// pair is a journal and its model, to which the same is done.
type pair struct {
	t *testing.T
	d *disk.Disk
	j *journal.Journal
	m *model
}

// alike tells whether all is as the model has it.
func (p pair) alike(what string) {
	p.t.Helper()
	sameDisk(p.t, what, p.d, p.m.d)
	// Twice, as to be asked changes nothing.
	for range 2 {
		if p.j.Seq() != p.m.seq || p.j.Used() != len(p.m.used) || p.j.Room() != p.m.size()-len(p.m.used) || p.j.Broken() != p.m.broken {
			p.t.Fatalf("%s: Seq %d, Used %d, Room %d, Broken %t, want %d, %d, %d, %t", what, p.j.Seq(), p.j.Used(), p.j.Room(), p.j.Broken(), p.m.seq, len(p.m.used), p.m.size()-len(p.m.used), p.m.broken)
		}
	}
}

// open opens a disk, and tells whether it is read as it should be.
func open(t *testing.T, d *disk.Disk) (pair, api.Errno) {
	t.Helper()
	was := d.Copy()
	j, l, e := journal.Open(d)
	sameDisk(t, "Open", d, was)
	m, want := opened(was)
	if e != want {
		t.Fatalf("Open = %d, want %d", int(e), int(want))
	}
	if e != api.OK {
		if j != nil || len(l) != 0 {
			t.Fatalf("Open = %v, %q beside error %d", j, l, int(e))
		}
		return pair{}, e
	}
	if !slices.Equal(l, m.l) {
		t.Fatalf("Open = %q, want %q", l, m.l)
	}
	p := pair{t, d, j, m}
	p.alike("Open")
	return p, e
}

// formatted is a new disk that has a journal of nothing.
func formatted(t *testing.T, sectors int) *disk.Disk {
	t.Helper()
	d, e := disk.New(sectors)
	if e != api.OK {
		t.Fatal(int(e))
	}
	if e := journal.Format(d); e != api.OK {
		t.Fatalf("Format = %d", int(e))
	}
	return d
}

// made is a pair of a new journal.
func made(t *testing.T, sectors int) pair {
	t.Helper()
	p, e := open(t, formatted(t, sectors))
	if e != api.OK {
		t.Fatalf("Open = %d", int(e))
	}
	return p
}

// told is a call of Append, or of Rewrite, of which journal and model tell the same.
func (p pair) told(what string, got, want api.Errno) api.Errno {
	p.t.Helper()
	if got != want {
		p.t.Fatalf("%s = %d, want %d", what, int(got), int(want))
	}
	p.alike("behind " + what)
	if !p.d.Down() && !p.m.broken {
		q, e := open(p.t, p.d.Copy())
		if e != api.OK || !slices.Equal(q.m.l, p.m.l) {
			p.t.Fatalf("behind %s there is %q, %d, want %q", what, q.m.l, int(e), p.m.l)
		}
	}
	return got
}

// handed hands a list to a call, with room behind it, and tells whether it is left as it is.
func (p pair) handed(l []string, call func(...string) api.Errno) api.Errno {
	p.t.Helper()
	room := append(slices.Clone(l), "spare", "room")
	was := slices.Clone(room)
	e := call(room[:len(l)]...)
	if !slices.Equal(room, was) {
		p.t.Fatalf("%q was handed in, %q is left", was, room)
	}
	clear(room)
	return e
}

func (p pair) append(l ...string) api.Errno {
	p.t.Helper()
	want := p.m.append(l...)
	return p.told("Append", p.handed(l, p.j.Append), want)
}

func (p pair) rewrite(l ...string) api.Errno {
	p.t.Helper()
	want := p.m.rewrite(l...)
	return p.told("Rewrite", p.handed(l, p.j.Rewrite), want)
}

func (p pair) arm(n int) {
	p.d.Arm(n)
	p.m.d.Arm(n)
}

func (p pair) crash(keep ...int) {
	p.t.Helper()
	p.d.Crash(keep...)
	p.m.d.Crash(keep...)
	p.alike("behind Crash")
}

// err tells whether an error is the one that it should be.
func err(t *testing.T, what string, e, want api.Errno) {
	t.Helper()
	if e != want {
		t.Errorf("%s: %d, want %d", what, int(e), int(want))
	}
}

// has tells whether a disk has a journal of just these records.
func has(t *testing.T, d *disk.Disk, want ...string) {
	t.Helper()
	// Twice, as to be opened changes nothing.
	for range 2 {
		if _, l, e := journal.Open(d); !slices.Equal(l, want) || e != api.OK {
			t.Fatalf("Open = %q, %d, want %q", l, int(e), want)
		}
	}
}
