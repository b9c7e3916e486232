package store_test

import (
	"slices"
	"testing"

	"lighterage/api"
	"lighterage/disk"
	"lighterage/journal"
	"lighterage/store"
)

// most is the greatest quota.
const most = 1 << 20

// pair is a store and its model, to which the same is done.
type pair struct {
	t *testing.T
	d *disk.Disk
	s *store.Store
	m *model
}

// contents are all sectors of a disk, behind a crash that keeps so much where it is down.
func contents(d *disk.Disk, keep ...int) []string {
	c := d.Copy()
	if c.Down() {
		c.Crash(keep...)
	}
	var l []string
	for at := range c.Len() {
		s, _ := c.Read(at)
		l = append(l, s)
	}
	return l
}

// sameDisk tells whether two disks are alike, in what was written, and in what a crash keeps of it.
func sameDisk(t *testing.T, what string, got, want *disk.Disk) {
	t.Helper()
	if got.Calls() != want.Calls() || got.Down() != want.Down() || !slices.Equal(got.Dirty(), want.Dirty()) {
		t.Fatalf("%s: %d calls, down %t, dirty %v, want %d, %t, %v", what, got.Calls(), got.Down(), got.Dirty(), want.Calls(), want.Down(), want.Dirty())
	}
	for _, keep := range [][]int{nil, slices.Repeat([]int{1}, len(want.Dirty()))} {
		if !slices.Equal(contents(got, keep...), contents(want, keep...)) {
			t.Fatalf("%s: the disk is other than it should be, where %v is kept", what, keep)
		}
	}
}

// alike tells whether all is as the model has it.
func (p pair) alike(what string) {
	p.t.Helper()
	sameDisk(p.t, what, p.d, p.m.d)
	p.has(what, p.m.l)
	if p.s.Broken() != p.m.broken || p.s.Quota() != p.m.quota {
		p.t.Fatalf("%s: Broken %t, Quota %d, want %t, %d", what, p.s.Broken(), p.s.Quota(), p.m.broken, p.m.quota)
	}
}

// has tells whether a store has just these values.
func (p pair) has(what string, l []store.Change) {
	p.t.Helper()
	var keys []string
	for _, c := range l {
		keys = append(keys, c.Key)
		if s, is := p.s.Get(c.Key); s != c.S || !is {
			p.t.Fatalf("%s: Get(%q) = %q, %t, want %q", what, c.Key, s, is, c.S)
		}
	}
	// Twice, as to be asked changes nothing.
	for range 2 {
		if got := p.s.Keys(""); !slices.Equal(got, keys) {
			p.t.Fatalf("%s: Keys = %q, want %q", what, got, keys)
		}
		if p.s.Len() != len(l) || p.s.Bytes() != bytes(l) {
			p.t.Fatalf("%s: Len %d, Bytes %d, want %d, %d", what, p.s.Len(), p.s.Bytes(), len(l), bytes(l))
		}
	}
}

// open opens a disk, and tells whether it is read as it should be.
func open(t *testing.T, d *disk.Disk, quota int) (pair, api.Errno) {
	t.Helper()
	was := d.Copy()
	s, e := store.Open(d, quota)
	sameDisk(t, "Open", d, was)
	m, want := opened(was, quota)
	if e != want {
		t.Fatalf("Open = %d, want %d", int(e), int(want))
	}
	if e != api.OK {
		if s != nil {
			t.Fatalf("Open = %v beside error %d", s, int(e))
		}
		return pair{}, e
	}
	p := pair{t, d, s, m}
	p.alike("Open")
	return p, e
}

// formatted is a new disk that has a store of nothing.
func formatted(t *testing.T, sectors int) *disk.Disk {
	t.Helper()
	d, e := disk.New(sectors)
	if e != api.OK {
		t.Fatal(int(e))
	}
	if e := store.Format(d); e != api.OK {
		t.Fatalf("Format = %d", int(e))
	}
	return d
}

// journaled is a new disk whose journal has records.
func journaled(t *testing.T, sectors int, l ...string) *disk.Disk {
	t.Helper()
	d := formatted(t, sectors)
	j, _, e := journal.Open(d)
	err(t, "Open", e, api.OK)
	for _, r := range l {
		err(t, "Append", j.Append(r), api.OK)
	}
	return d
}

// made is a pair of a new store.
func made(t *testing.T, sectors, quota int) pair {
	t.Helper()
	p, e := open(t, formatted(t, sectors), quota)
	if e != api.OK {
		t.Fatalf("Open = %d", int(e))
	}
	return p
}

// again is the pair of a copy of the disk, opened anew.
func (p pair) again() pair {
	p.t.Helper()
	q, e := open(p.t, p.d.Copy(), p.m.quota)
	err(p.t, "Open", e, api.OK)
	return q
}

// handed hands changes to a call, with room behind them, and tells whether these are left as they are.
func (p pair) handed(l []store.Change, call func(...store.Change) api.Errno) api.Errno {
	p.t.Helper()
	room := append(slices.Clone(l), put("spare", "room"))
	was := slices.Clone(room)
	e := call(room[:len(l)]...)
	if !slices.Equal(room, was) {
		p.t.Fatalf("%v was handed in, %v is left", was, room)
	}
	clear(room)
	return e
}

// do does changes to both, Check ahead of Do, and opens what is there then.
func (p pair) do(l ...store.Change) api.Errno {
	p.t.Helper()
	_, want := p.m.check(l)
	err(p.t, "Check", p.handed(l, p.s.Check), want)
	p.alike("behind Check")
	want = p.m.do(l)
	e := p.handed(l, p.s.Do)
	if e != want {
		p.t.Fatalf("Do = %d, want %d", int(e), int(want))
	}
	p.alike("behind Do")
	if !p.d.Down() && !p.m.broken {
		p.again().has("opened anew", p.m.l)
	}
	return e
}

func (p pair) arm(n int) {
	p.d.Arm(n)
	p.m.d.Arm(n)
}

func (p pair) crash(keep ...int) {
	p.t.Helper()
	p.d.Crash(keep...)
	p.m.d.Crash(keep...)
	p.alike("behind Crash")
}

// err tells whether an error is the one that it should be.
func err(t *testing.T, what string, e, want api.Errno) {
	t.Helper()
	if e != want {
		t.Errorf("%s: %d, want %d", what, int(e), int(want))
	}
}
