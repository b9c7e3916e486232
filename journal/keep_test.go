package journal_test

import (
	"math"
	"strings"
	"testing"

	"lighterage/api"
	"lighterage/disk"
	"lighterage/journal"
)

// text is a record of n bytes.
func text(n int) string {
	return strings.Repeat("0123456789", n/10+1)[:n]
}

// P5.3: records come back in their order, those of Rewrite instead of those ahead of it.
func TestKeep(t *testing.T) {
	p := made(t, 12)
	for _, x := range []struct {
		rewrite bool
		l, want []string
	}{
		{false, []string{"a"}, []string{"a"}},
		{false, []string{"b", "", "c"}, []string{"a", "b", "", "c"}},
		{false, nil, []string{"a", "b", "", "c"}},
		{false, []string{""}, []string{"a", "b", "", "c", ""}},
		{true, []string{"d", "e"}, []string{"d", "e"}},
		{false, []string{text(150)}, []string{"d", "e", text(150)}},
		{true, nil, nil},
		{false, []string{"\x00\xff", "f"}, []string{"\x00\xff", "f"}},
		{true, []string{""}, []string{""}},
		{true, []string{text(200)}, []string{text(200)}},
	} {
		if x.rewrite {
			err(t, "Rewrite", p.rewrite(x.l...), api.OK)
		} else {
			err(t, "Append", p.append(x.l...), api.OK)
		}
		has(t, p.d, x.want...)
	}
}

// standing tells whether the sectors of a disk begin with what they should, and are 0 behind it.
func standing(t *testing.T, d *disk.Disk, want ...string) {
	t.Helper()
	for at, s := range contents(d) {
		if s != padded(want[at]) {
			t.Errorf("sector %d: %q, want %q", at, s, padded(want[at]))
		}
	}
}

// P5.3: sectors of just the bytes that are used and those that come; those of which nothing comes stay, whatever they have.
func TestKeepBytes(t *testing.T) {
	d := formatted(t, 6)
	j, _, _ := journal.Open(d)
	standing(t, d, "", headed(1, 0, 0), "", "", "", "")
	j.Append("one")
	standing(t, d, headed(2, 0, 8), headed(1, 0, 0), framed("one"), "", "", "")
	j.Append(text(50), "x")
	laid := framed("one", text(50), "x")
	standing(t, d, headed(2, 0, 8), headed(3, 0, len(laid)), laid[:64], laid[64:], "", "")
	j.Rewrite("r")
	standing(t, d, headed(4, 1, 6), headed(3, 0, len(laid)), laid[:64], laid[64:], framed("r"), "")
	j.Rewrite("s")
	standing(t, d, headed(4, 1, 6), headed(5, 0, 6), framed("s"), laid[64:], framed("r"), "")
	j.Rewrite()
	standing(t, d, headed(6, 1, 0), headed(5, 0, 6), framed("s"), laid[64:], framed("r"), "")
	j.Append()
	standing(t, d, headed(6, 1, 0), headed(5, 0, 6), framed("s"), laid[64:], framed("r"), "")
	j.Append("")
	standing(t, d, headed(6, 1, 0), headed(7, 1, 5), framed("s"), laid[64:], framed(""), "")
}

// P5.3: records of every length, from every place in a sector on, by a journal that goes on and by one that is opened anew.
func TestKeepEveryPlace(t *testing.T) {
	for ahead := range 70 {
		for _, n := range []int{0, 1, 50, 58, 59, 60, 64, 65, 122, 123, 124, 128, 186, 187, 188} {
			p := made(t, 14)
			if ahead >= 5 {
				p.append(text(ahead - 5))
			}
			p.append(text(n))
			p.append("z")
			q, _ := open(t, p.d)
			q.append(text(n), "y")
			q.rewrite(text(n))
			q.append("x", text(n))
		}
	}
}

// P5.3: from each place on, of each length, up to what there is room for, and one more.
func TestKeepFull(t *testing.T) {
	for _, sectors := range []int{4, 5, 6, 7, 8} {
		for half := range 2 {
			for ahead := range 3 {
				p := made(t, sectors)
				if half == 1 {
					p.rewrite()
				}
				for range ahead {
					p.append(text(15))
				}
				for n := range p.j.Room() + 5 {
					want, q := api.OK, p
					q.d, q.m = p.d.Copy(), &model{p.m.d.Copy(), p.m.seq, p.m.half, p.m.l, p.m.used, false}
					q.j, _, _ = journal.Open(q.d)
					if len(framed(text(n))) > p.j.Room() {
						want = api.ErrFull
					}
					err(t, "Append", q.append(text(n)), want)
					if q.j.Broken() {
						t.Fatal("broken, where nothing was done")
					}
					if want == api.OK && q.j.Room() < 5 {
						err(t, "Append to a full half", q.append(""), api.ErrFull)
						err(t, "Append of nothing to a full half", q.append(), api.OK)
					}
				}
			}
		}
	}
}

// P5.3: Rewrite has room of a whole half, whatever is used of the other one.
func TestRewriteFull(t *testing.T) {
	for _, sectors := range []int{4, 5, 6, 9} {
		size := (sectors - 2) / 2 * 64
		most := size - 5
		if most > 127 {
			most--
		}
		p := made(t, sectors)
		for range 3 {
			err(t, "Rewrite", p.rewrite(text(most)), api.OK)
			if p.j.Room() != 0 {
				t.Errorf("%d sectors: Room %d", sectors, p.j.Room())
			}
			err(t, "Rewrite of a byte more", p.rewrite(text(most+1)), api.ErrFull)
			err(t, "Rewrite of a record more", p.rewrite(text(most), ""), api.ErrFull)
			err(t, "Append to a full half", p.append(""), api.ErrFull)
			has(t, p.d, text(most))
			p.rewrite("a")
			has(t, p.d, "a")
		}
	}
}

// P5.3: the greatest disk: as much as frame lays in one call, and more than that in two.
func TestKeepGreat(t *testing.T) {
	p := made(t, api.MaxSectors)
	l := []string{text(api.MaxBlob - 7)}
	err(t, "Append", p.append(l...), api.OK)
	err(t, "Append", p.append(l...), api.ErrFull)
	l = append(l, text(p.j.Room()-7))
	err(t, "Append", p.append(l[1]), api.OK)
	if p.j.Room() != 0 || p.j.Used() != 2047*64 {
		t.Errorf("Used %d, Room %d", p.j.Used(), p.j.Room())
	}
	has(t, p.d, l...)
	err(t, "Rewrite", p.rewrite(l...), api.ErrBig)
	err(t, "Rewrite", p.rewrite(l[0]), api.OK)
	has(t, p.d, l[0])
	q, _ := open(t, p.d)
	err(t, "Append", q.append("x"), api.OK)
}

// P5.3: a head's number tells its sector, wherever the one ahead of it stood, and however long it is.
func TestKeepSeq(t *testing.T) {
	for _, seq := range []int{0, 1, 2, 126, 127, 128, 16383, 1<<40 - 1, math.MaxInt - 3, math.MaxInt - 2} {
		for at := range 2 {
			d := disked(t, 6, "", "", framed("x"))
			d.Write(at, headed(seq, 0, 6))
			d.Flush()
			p, e := open(t, d)
			err(t, "Open", e, api.OK)
			err(t, "Append", p.append("y"), api.OK)
			err(t, "Rewrite", p.rewrite("z"), api.OK)
			if p.j.Seq() != seq+2 || contents(d)[(seq+1)%2] != padded(headed(seq+1, 0, 12)) || contents(d)[seq%2] != padded(headed(seq+2, 1, 6)) {
				t.Errorf("from %d on: Seq %d, heads %q", seq, p.j.Seq(), contents(d)[:2])
			}
		}
	}
}

// P5.4: how much room there is, and how much is used, of halves that are rounded down.
func TestQueries(t *testing.T) {
	for _, c := range []struct{ sectors, size int }{{4, 64}, {5, 64}, {6, 128}, {7, 128}, {8, 192}, {api.MaxSectors - 1, 2046 * 64}, {api.MaxSectors, 2047 * 64}} {
		p := made(t, c.sectors)
		for i, used := range []int{0, 6, 12, 6, 0} {
			if p.j.Used() != used || p.j.Room() != c.size-used || p.j.Seq() != i+1 || p.j.Broken() {
				t.Errorf("%d sectors: Used %d, Room %d, Seq %d, want %d, %d, %d", c.sectors, p.j.Used(), p.j.Room(), p.j.Seq(), used, c.size-used, i+1)
			}
			switch i {
			case 0, 1:
				p.append("a")
			case 2:
				p.rewrite("b")
			case 3:
				p.rewrite()
			}
		}
	}
}

// P5.3, R4: what one journal keeps another one has not.
func TestApart(t *testing.T) {
	p, q := made(t, 6), made(t, 6)
	p.append("p")
	q.append("q")
	p.append("p")
	q.rewrite("r", "q")
	has(t, p.d, "p", "p")
	has(t, q.d, "r", "q")
}

// P5.3, R3: the disk is the one that was handed in, and nothing else is kept of what was.
func TestKeepOwn(t *testing.T) {
	p := made(t, 6)
	l := []string{"a", "b"}
	p.j.Append(l...)
	clear(l)
	has(t, p.d, "a", "b")
	other := p.d.Copy()
	p.j.Append("c")
	has(t, other, "a", "b")
	has(t, p.d, "a", "b", "c")
}
