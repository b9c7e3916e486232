package journal_test

import (
	"math"
	"slices"
	"strings"
	"testing"

	"lighterage/api"
	"lighterage/disk"
	"lighterage/journal"
)

// disked is a disk of so many sectors that begin with what it is handed.
func disked(t *testing.T, sectors int, l ...string) *disk.Disk {
	t.Helper()
	d, e := disk.New(sectors)
	if e != api.OK {
		t.Fatal(int(e))
	}
	for at, s := range l {
		if e := d.Write(at, s); e != api.OK {
			t.Fatal(int(e))
		}
	}
	d.Flush()
	return d
}

// The chapter's example.
func TestExample(t *testing.T) {
	d := disked(t, 8)
	err(t, "Format", journal.Format(d), api.OK)
	j, _, e := journal.Open(d)
	err(t, "Open", e, api.OK)
	err(t, "Append", j.Append("a", "b"), api.OK)
	has(t, d, "a", "b")
}

// P5.1: zeros, and a head of nothing, whatever was there; all else stays.
func TestFormat(t *testing.T) {
	for _, n := range []int{4, 5, 6, 7, 100, api.MaxSectors} {
		var old []string
		for range min(n, 10) {
			old = append(old, strings.Repeat("x", api.Sector))
		}
		d := disked(t, n, old...)
		want := contents(d)
		want[0], want[1] = padded(""), padded("LIGHTER\x01\x00\x00"+sumOf("LIGHTER\x01\x00\x00"))
		calls := d.Calls()
		err(t, "Format", journal.Format(d), api.OK)
		if !slices.Equal(contents(d), want) || len(d.Dirty()) != 0 || d.Calls() != calls+3 {
			t.Errorf("%d sectors: dirty %v, %d calls, sectors %q", n, d.Dirty(), d.Calls()-calls, contents(d)[:4])
		}
		p, e := open(t, d)
		if e != api.OK || p.j.Seq() != 1 || p.j.Used() != 0 || p.j.Room() != (n-2)/2*64 || p.j.Broken() {
			t.Errorf("%d sectors: %d, Seq %d, Used %d, Room %d, Broken %t", n, int(e), p.j.Seq(), p.j.Used(), p.j.Room(), p.j.Broken())
		}
		has(t, d)
	}
}

// P5.1, P5.2: of no disk, of one that is too small, whether it is down or not.
func TestTooSmall(t *testing.T) {
	err(t, "Format of nil", journal.Format(nil), api.ErrNil)
	if j, l, e := journal.Open(nil); j != nil || len(l) != 0 || e != api.ErrNil {
		t.Errorf("Open of nil: %v, %q, %d", j, l, int(e))
	}
	for n := 1; n <= 3; n++ {
		d := disked(t, n, headed(1, 0, 0))
		for range 2 {
			was, calls := contents(d), d.Calls()
			err(t, "Format of too few sectors", journal.Format(d), api.ErrArg)
			if j, l, e := journal.Open(d); j != nil || len(l) != 0 || e != api.ErrArg {
				t.Errorf("Open of %d sectors: %v, %q, %d", n, j, l, int(e))
			}
			if !slices.Equal(contents(d), was) || d.Calls() != calls {
				t.Errorf("%d sectors are not left as they were", n)
			}
			d.Arm(1)
			d.Flush()
		}
	}
}

// P5.1: the steps in their order, up to the one at which the disk goes down.
func TestFormatFalls(t *testing.T) {
	head := headed(1, 0, 0)
	steps := []step{{at: 0}, {at: 1, s: head}, {flush: true}}
	for n := 1; n <= 4; n++ {
		got := disked(t, 6, headed(7, 1, 6), headed(8, 0, 0), "", "", framed("x"))
		want := got.Copy()
		got.Arm(n)
		want.Arm(n)
		e := (&model{d: want}).do(steps)
		if (e == api.OK) != (n == 4) {
			t.Fatalf("armed at %d: %d", n, int(e))
		}
		err(t, "Format", journal.Format(got), e)
		sameDisk(t, "Format", got, want)
		if n < 4 {
			err(t, "Format while down", journal.Format(got), api.ErrDown)
			sameDisk(t, "Format while down", got, want)
		}
	}
}

// P5.1: a journal that is formatted again has nothing, and keeps anew.
func TestFormatAgain(t *testing.T) {
	p := made(t, 10)
	p.append("old", strings.Repeat("o", 100))
	p.append("older")
	p.rewrite("o", "p")
	err(t, "Format", journal.Format(p.d), api.OK)
	has(t, p.d)
	q, _ := open(t, p.d)
	q.append("new")
	has(t, p.d, "new")
}

// P5.2: the error of the disk comes ahead of that of the heads, and of the records.
func TestOpenDown(t *testing.T) {
	for _, c := range []struct {
		head string
		err  api.Errno
	}{{"", api.ErrNone}, {headed(1, 0, 0), api.OK}, {headed(1, 0, 6), api.ErrShort}} {
		d := disked(t, 6, c.head)
		d.Arm(1)
		d.Flush()
		_, e := open(t, d)
		err(t, "Open while down", e, api.ErrDown)
		d.Crash()
		_, e = open(t, d)
		err(t, "Open", e, c.err)
	}
}

// notHeads are sectors that are no valid head of a disk whose halves have two sectors.
func notHeads() []string {
	good := headed(5, 1, 6)
	bad := []string{
		"", "LIGHTER", good[1:], "\x00" + good, "\x07" + good, "lIGHTER" + good[7:], "LIGHTES" + good[7:],
		good[:len(good)-1], good[:len(good)-1] + "\x01", good[:len(good)-4], good[:10] + "\x00" + good[10:],
		// A sum of the numbers alone, of the mark alone, the other way round.
		good[:10] + sumOf(good[7:10]), good[:10] + sumOf("LIGHTER"), good[:10] + sumOf(good[:9]),
		good[:10] + good[13:] + good[12:13] + good[11:12] + good[10:11],
		// Halves that are none, and more than one has room for.
		headed(5, 2, 6), headed(5, 3, 0), headed(5, 128, 0), headed(5, math.MaxInt, 0),
		headed(5, 0, 129), headed(5, 1, 129), headed(5, 1, 4096), headed(5, 0, math.MaxInt),
		headed(math.MaxInt, 2, 0), headed(math.MaxInt, 0, 129),
	}
	// Numbers that nobody lays, under a sum that is right.
	nine := strings.Repeat("\xff", 9)
	for _, numbers := range []string{"\x85\x00\x01\x06", "\x05\x81\x00\x06", "\x05\x01\x86\x00", "\x05\x01\x86\x80\x00", nine + "\x01\x01\x06", nine + "\x00", nine[:8] + "\x80\x01\x01\x06", "\x05" + nine + "\x00\x06", "\x05\x01" + nine, "\x05\x01", "\x05", ""} {
		bad = append(bad, "LIGHTER"+numbers+sumOf("LIGHTER"+numbers))
	}
	// A bit of each byte, of the mark, the numbers, and the sum.
	for i := range len(good) {
		for bit := range 8 {
			b := []byte(good)
			b[i] ^= 1 << bit
			bad = append(bad, string(b))
		}
	}
	return bad
}

// P5.2: what is no valid head, beside none, and beside one whose number is less, or greater.
func TestOpenNoHead(t *testing.T) {
	for _, bad := range notHeads() {
		for _, other := range []string{"", "LIGHTER", headed(5, 0, 129)} {
			for _, d := range []*disk.Disk{disked(t, 6, bad, other), disked(t, 6, other, bad)} {
				if _, e := open(t, d); e != api.ErrNone {
					t.Errorf("Open of heads %q and %q: %d", bad, other, int(e))
				}
			}
		}
		for _, seq := range []int{0, 1, 9} {
			good := headed(seq, 1, 6)
			for _, d := range []*disk.Disk{disked(t, 6, bad, good, "", "", framed("x")), disked(t, 6, good, bad, "", "", framed("x"))} {
				p, e := open(t, d)
				if e != api.OK || p.j.Seq() != seq {
					t.Fatalf("Open of %q beside a head: %d", bad, int(e))
				}
				has(t, d, "x")
			}
		}
	}
}

// P5.2: what stands behind a head in its sector is not looked at, up to the longest head there is.
func TestOpenBehindHead(t *testing.T) {
	for _, seq := range []int{0, 1, 127, 128, 1 << 40, math.MaxInt} {
		for _, used := range []int{0, 6} {
			head := headed(seq, 1, used)
			for _, c := range []string{"\x00", "\xff", "L", "x"} {
				d := disked(t, 6, head+strings.Repeat(c, api.Sector-len(head)), "", "", "", framed("x"))
				p, e := open(t, d)
				if e != api.OK || p.j.Seq() != seq || p.j.Used() != used {
					t.Errorf("Open: %d, Seq %d, Used %d", int(e), p.j.Seq(), p.j.Used())
				}
			}
		}
	}
}

// P5.2: the head with the greater number holds, in whichever sector it stands; of two with the same number that of sector 0.
func TestOpenNewest(t *testing.T) {
	for _, c := range []struct{ a, b, want int }{
		{1, 0, 0}, {0, 1, 1}, {1, 2, 1}, {2, 1, 0}, {3, 9, 1}, {9, 3, 0}, {0, 0, 0}, {1, 1, 0}, {7, 7, 0},
		{127, 128, 1}, {128, 127, 0}, {255, 256, 1}, {1<<32 + 1, 2, 0}, {2, 1 << 32, 1},
		{math.MaxInt, math.MaxInt, 0}, {math.MaxInt, math.MaxInt - 1, 0}, {math.MaxInt - 1, math.MaxInt, 1}, {0, math.MaxInt, 1},
	} {
		for half := range 2 {
			d := disked(t, 4, headed(c.a, half, 6), headed(c.b, 1-half, 7), "", "")
			texts := []string{framed("a"), framed("bb")}
			d.Write(2+half, texts[0])
			d.Write(3-half, texts[1])
			p, e := open(t, d)
			if e != api.OK {
				t.Fatalf("Open of %d and %d: %d", c.a, c.b, int(e))
			}
			if p.j.Seq() != max(c.a, c.b) || p.j.Used() != 6+c.want {
				t.Errorf("heads %d and %d: Seq %d, Used %d", c.a, c.b, p.j.Seq(), p.j.Used())
			}
			has(t, d, []string{"a", "bb"}[c.want])
		}
	}
}

// P5.2: the bytes that are used of the half that the head names, and no others; the other half has nothing to say.
func TestOpenHalf(t *testing.T) {
	long := framed(strings.Repeat("l", 100), "m", strings.Repeat("n", 60))
	for _, sectors := range []int{8, 9} {
		for half := range 2 {
			d := disked(t, sectors, headed(4, half, len(long)))
			for i := 0; i < len(long); i += api.Sector {
				d.Write(2+3*half+i/api.Sector, (long + strings.Repeat("z", 64))[i:i+64])
			}
			has(t, d, strings.Repeat("l", 100), "m", strings.Repeat("n", 60))
			for at := range 3 {
				d.Write(2+3*(1-half)+at, "other")
			}
			if sectors == 9 {
				d.Write(8, "last")
			}
			p, e := open(t, d)
			if e != api.OK || p.j.Used() != len(long) || p.j.Room() != 192-len(long) {
				t.Errorf("half %d: %d, Used %d, Room %d", half, int(e), p.j.Used(), p.j.Room())
			}
		}
	}
}

// P5.2: each number of used bytes: whole records are read, of others the error of frame is told, even where the other head would do.
func TestOpenUsed(t *testing.T) {
	l := []string{"a", "", strings.Repeat("b", 50), strings.Repeat("c", 50), "d"}
	long := framed(l...)
	if len(long) != 128 {
		l[4] += strings.Repeat("d", 128-len(long))
		long = framed(l...)
	}
	whole := 0
	for used := range len(long) + 1 {
		for at := range 2 {
			d := disked(t, 6, headed(1, 0, 0), headed(1, 0, 0), "", "", long[:64], long[64:])
			d.Write(at, headed(2, 1, used))
			p, e := open(t, d)
			if e == api.OK {
				whole++
				has(t, d, p.m.l...)
			} else if e != api.ErrShort {
				t.Errorf("%d used: %d", used, int(e))
			}
		}
	}
	if whole != 2*(len(l)+1) {
		t.Errorf("%d times whole", whole)
	}
}

// P5.2: the errors of frame.
func TestOpenBadRecords(t *testing.T) {
	for _, c := range []struct {
		s   string
		err api.Errno
	}{
		{"\x05abc", api.ErrShort},
		{framed("a") + "\x00", api.ErrShort},
		{"\x81\x00a" + sumOf("a"), api.ErrForm},
		{framed("a") + "\x80\x00", api.ErrForm},
		{"\x01b" + sumOf("a"), api.ErrSum},
		{framed("a") + "\x00\x00\x00\x00\x01" + "\x80\x00", api.ErrSum},
		{"\x00\x00\x00\x00\x00", api.OK},
	} {
		for half := range 2 {
			d := disked(t, 4, headed(1, 0, 0), headed(2, half, len(c.s)))
			d.Write(2+half, c.s)
			if _, e := open(t, d); e != c.err {
				t.Errorf("%q: %d, want %d", c.s, int(e), int(c.err))
			}
		}
	}
}

// P5.2, R3: each list is its caller's own.
func TestOpenApart(t *testing.T) {
	p := made(t, 6)
	p.append("a", "b")
	j, l, _ := journal.Open(p.d)
	l[0] = "z"
	has(t, p.d, "a", "b")
	err(t, "Append", j.Append("c"), api.OK)
	has(t, p.d, "a", "b", "c")
}

// P5.2, R1: whatever is on a disk.
func FuzzOpen(f *testing.F) {
	f.Add(uint8(0), "", "", "", uint8(0))
	f.Add(uint8(2), "\x05\x01\x06", headed(3, 0, 6), framed("x"), uint8(12))
	f.Add(uint8(4), "\x05\x00\x7f", "\x05\x00\x7f", framed("x", strings.Repeat("y", 100)), uint8(255))
	f.Fuzz(func(t *testing.T, sectors uint8, a, b, data string, at uint8) {
		for _, sum := range []bool{false, true} {
			d, _ := disk.New(1 + int(sectors%12))
			for i, s := range []string{a, b} {
				if sum {
					s = "LIGHTER" + s + sumOf("LIGHTER"+s)
				}
				d.Write(i, s[:min(len(s), api.Sector)])
			}
			s := data[:min(len(data), 700)]
			for i := 2; s != ""; i++ {
				n := min(len(s), api.Sector)
				d.Write(i, s[:n])
				s = s[n:]
			}
			if d.Len() < 4 {
				if j, l, e := journal.Open(d); j != nil || l != nil || e != api.ErrArg {
					t.Fatalf("Open: %v, %q, %d", j, l, int(e))
				}
				continue
			}
			d.Flush()
			if p, e := open(t, d); e == api.OK {
				p.append(data, a)
				p.rewrite(b, data[:int(at)*len(data)/256])
				p.append("z")
			}
		}
	})
}
