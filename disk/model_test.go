package disk_test

import (
	"math/big"
	"slices"
	"strings"
	"testing"

	"lighterage/api"
	"lighterage/disk"
)

// model is a disk as the document says it, word by word: of each sector the list of its safe contents and then the pending ones, and the calls that it is armed for by their numbers, however great.
type model struct {
	list  [][]string
	calls int
	armed *big.Int // nil: none
	down  bool
}

// padded is 64 bytes.
func padded(s string) string { return s + strings.Repeat("\x00", api.Sector-len(s)) }

// modelOf is a model of a new disk.
func modelOf(sectors int) *model {
	m := &model{list: make([][]string, sectors)}
	for at := range m.list {
		m.list[at] = []string{padded("")}
	}
	return m
}

func (m *model) call() api.Errno {
	m.calls++
	if m.armed != nil && m.armed.Cmp(big.NewInt(int64(m.calls))) == 0 {
		m.down = true
		return api.ErrDown
	}
	return api.OK
}

func (m *model) write(at int, s string) api.Errno {
	if m.down {
		return api.ErrDown
	}
	if at < 0 || at >= len(m.list) {
		return api.ErrRange
	}
	if len(s) > api.Sector {
		return api.ErrBig
	}
	e := m.call()
	if e == api.OK {
		m.list[at] = append(m.list[at], padded(s))
	}
	return e
}

func (m *model) read(at int) (string, api.Errno) {
	if m.down {
		return "", api.ErrDown
	}
	if at < 0 || at >= len(m.list) {
		return "", api.ErrRange
	}
	return m.list[at][len(m.list[at])-1], api.OK
}

func (m *model) flush() api.Errno {
	if m.down {
		return api.ErrDown
	}
	e := m.call()
	if e == api.OK {
		for at, l := range m.list {
			m.list[at] = []string{l[len(l)-1]}
		}
	}
	return e
}

func (m *model) arm(n int) {
	m.armed = nil
	if n >= 1 {
		m.armed = new(big.Int).Add(big.NewInt(int64(m.calls)), big.NewInt(int64(n)))
	}
}

func (m *model) crash(keep ...int) {
	for i, at := range m.dirty() {
		k := new(big.Int)
		if i < len(keep) {
			k.Abs(big.NewInt(int64(keep[i])))
		}
		k.Mod(k, big.NewInt(int64(len(m.list[at]))))
		m.list[at] = []string{m.list[at][k.Int64()]}
	}
	m.down, m.armed = false, nil
}

func (m *model) dirty() []int {
	var l []int
	for at := range m.list {
		if len(m.list[at]) > 1 {
			l = append(l, at)
		}
	}
	return l
}

func (m *model) copy() *model {
	c := *m
	c.list = make([][]string, len(m.list))
	for at := range m.list {
		c.list[at] = slices.Clone(m.list[at])
	}
	return &c
}

// alike tells whether a disk is as its model.
func alike(t *testing.T, what string, d *disk.Disk, m *model) {
	t.Helper()
	// Twice, as to be asked changes nothing.
	for range 2 {
		if d.Down() != m.down || d.Len() != len(m.list) || d.Calls() != m.calls {
			t.Fatalf("%s: down %t, %d sectors, %d calls, want %t, %d, %d", what, d.Down(), d.Len(), d.Calls(), m.down, len(m.list), m.calls)
		}
		if l := d.Dirty(); !slices.Equal(l, m.dirty()) {
			t.Fatalf("%s: dirty %v, want %v", what, l, m.dirty())
		}
		for at := -1; at <= len(m.list); at++ {
			s, e := d.Read(at)
			if want, err := m.read(at); s != want || e != err {
				t.Fatalf("%s: Read(%d) = %q, %d, want %q, %d", what, at, s, int(e), want, int(err))
			}
		}
	}
}

// pair is a disk and its model, to which the same is done.
type pair struct {
	t *testing.T
	d *disk.Disk
	m *model
}

// made is a pair of a new disk.
func made(t *testing.T, sectors int) pair {
	t.Helper()
	d, e := disk.New(sectors)
	if d == nil || e != api.OK {
		t.Fatalf("New(%d): %d", sectors, int(e))
	}
	p := pair{t, d, modelOf(sectors)}
	alike(t, "a new disk", p.d, p.m)
	return p
}

func (p pair) write(at int, s string) api.Errno {
	p.t.Helper()
	e, want := p.d.Write(at, s), p.m.write(at, s)
	if e != want {
		p.t.Fatalf("Write(%d, %q) = %d, want %d", at, s, int(e), int(want))
	}
	alike(p.t, "behind Write", p.d, p.m)
	return e
}

func (p pair) flush() api.Errno {
	p.t.Helper()
	e, want := p.d.Flush(), p.m.flush()
	if e != want {
		p.t.Fatalf("Flush = %d, want %d", int(e), int(want))
	}
	alike(p.t, "behind Flush", p.d, p.m)
	return e
}

func (p pair) arm(n int) {
	p.t.Helper()
	p.d.Arm(n)
	p.m.arm(n)
	alike(p.t, "behind Arm", p.d, p.m)
}

func (p pair) crash(keep ...int) {
	p.t.Helper()
	handed := slices.Clone(keep)
	p.d.Crash(handed...)
	if !slices.Equal(handed, keep) {
		p.t.Fatalf("Crash changed what it was handed: %v to %v", keep, handed)
	}
	p.m.crash(keep...)
	alike(p.t, "behind Crash", p.d, p.m)
}

func (p pair) copy() pair {
	p.t.Helper()
	c := pair{p.t, p.d.Copy(), p.m.copy()}
	alike(p.t, "a copy", c.d, c.m)
	alike(p.t, "behind Copy", p.d, p.m)
	return c
}
