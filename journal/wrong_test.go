package journal_test

import (
	"math"
	"slices"
	"testing"

	"lighterage/api"
	"lighterage/journal"
)

// P5.3: more than frame lays is too much, also where it would not fit; neither breaks the journal.
func TestKeepBig(t *testing.T) {
	big, very := text(api.MaxBlob-6), text(20*api.MaxBlob)
	for _, sectors := range []int{4, 100, 2052, api.MaxSectors} {
		p := made(t, sectors)
		p.append("a")
		for _, l := range [][]string{{big}, {very}, {"", very, ""}, slices.Repeat([]string{""}, api.MaxBlob/5+1)} {
			err(t, "Append", p.append(l...), api.ErrBig)
			err(t, "Rewrite", p.rewrite(l...), api.ErrBig)
		}
		err(t, "Append", p.append("b"), api.OK)
		has(t, p.d, "a", "b")
	}
}

// P5.3: no number is left: that comes ahead of what is wrong with the records, of none too, and does not break the journal.
func TestKeepCount(t *testing.T) {
	very := text(2 * api.MaxBlob)
	for at := range 2 {
		d := disked(t, 6, "", "", framed("x"))
		d.Write(at, headed(math.MaxInt-1, 0, 6))
		d.Flush()
		p, _ := open(t, d)
		err(t, "Append", p.append("y"), api.OK)
		for range 2 {
			for _, l := range [][]string{nil, {"a"}, {very}, {text(1000)}} {
				err(t, "Append", p.append(l...), api.ErrCount)
				err(t, "Rewrite", p.rewrite(l...), api.ErrCount)
			}
			if p.j.Seq() != math.MaxInt || p.j.Broken() {
				t.Errorf("Seq %d, Broken %t", p.j.Seq(), p.j.Broken())
			}
			p, _ = open(t, d)
		}
		has(t, d, "x", "y")
		p, _ = open(t, d)
		p.arm(1)
		p.d.Flush()
		p.m.d.Flush()
		err(t, "Append while down", p.append("a"), api.ErrCount)
	}
}

// P5.3, P5.4: behind an error of the disk it is broken for good, even where the disk is up again, and tells what held ahead of it; it can be opened anew.
func TestBroken(t *testing.T) {
	very := text(2 * api.MaxBlob)
	for _, rewrite := range []bool{false, true} {
		for n := 1; n <= 4; n++ {
			p := made(t, 8)
			p.append("a", text(70))
			p.arm(n)
			if rewrite {
				err(t, "Rewrite", p.rewrite("b"), api.ErrDown)
			} else {
				err(t, "Append", p.append("b"), api.ErrDown)
			}
			for range 2 {
				for _, l := range [][]string{nil, {"c"}, {very}, {text(1000)}} {
					err(t, "Append", p.append(l...), api.ErrState)
					err(t, "Rewrite", p.rewrite(l...), api.ErrState)
				}
				if !p.j.Broken() || p.j.Seq() != 2 {
					t.Errorf("Broken %t, Seq %d", p.j.Broken(), p.j.Seq())
				}
				p.crash()
			}
			has(t, p.d, "a", text(70))
			q, _ := open(t, p.d)
			err(t, "Append", q.append("d"), api.OK)
			has(t, p.d, "a", text(70), "d")
		}
	}
}

// P5.3: ahead of the disk: while it is down, what is asked first is told, and Append of nothing does nothing.
func TestKeepDown(t *testing.T) {
	p := made(t, 6)
	p.arm(1)
	p.d.Flush()
	p.m.d.Flush()
	err(t, "Append of nothing", p.append(), api.OK)
	err(t, "Append of too much", p.append(text(2*api.MaxBlob)), api.ErrBig)
	err(t, "Append of what does not fit", p.append(text(128)), api.ErrFull)
	err(t, "Rewrite of too much", p.rewrite(text(2*api.MaxBlob)), api.ErrBig)
	err(t, "Rewrite of what does not fit", p.rewrite(text(128)), api.ErrFull)
	if p.j.Broken() {
		t.Error("broken, where nothing was done")
	}
	err(t, "Append", p.append("a"), api.ErrDown)
	p, _ = open(t, formatted(t, 6))
	p.arm(1)
	p.d.Flush()
	p.m.d.Flush()
	err(t, "Rewrite of nothing", p.rewrite(), api.ErrDown)
	if !p.j.Broken() {
		t.Error("not broken")
	}
}

// P5.3, P5.4: of a journal that is nil.
func TestNil(t *testing.T) {
	var j *journal.Journal
	for _, l := range [][]string{nil, {"a"}, {text(2 * api.MaxBlob)}} {
		err(t, "Append of nil", j.Append(l...), api.ErrNil)
		err(t, "Rewrite of nil", j.Rewrite(l...), api.ErrNil)
	}
	if j.Room() != 0 || j.Used() != 0 || j.Seq() != 0 || !j.Broken() {
		t.Errorf("nil: %d, %d, %d, %t", j.Room(), j.Used(), j.Seq(), j.Broken())
	}
}
