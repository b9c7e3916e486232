package store_test

import (
	"slices"
	"strings"
	"testing"

	"lighterage/api"
	"lighterage/disk"
	"lighterage/journal"
	"lighterage/store"
)

// The chapter's example.
func TestExample(t *testing.T) {
	p := made(t, 8, 100)
	err(t, "Do", p.do(put("a", "1"), put("b", "2")), api.OK)
	if l := p.s.Keys(""); !slices.Equal(l, []string{"a", "b"}) || p.s.Bytes() != 4 {
		t.Errorf("Keys %q, Bytes %d", l, p.s.Bytes())
	}
}

// P6.1: Format does what that of journal does: as often as it is called, on whatever disk, while that goes down.
func TestFormat(t *testing.T) {
	err(t, "Format of nil", store.Format(nil), journal.Format(nil))
	for sectors := 1; sectors <= 7; sectors++ {
		for n := range 5 {
			d, _ := disk.New(sectors)
			d.Write(0, "x")
			d.Arm(n)
			want := d.Copy()
			for range 2 {
				err(t, "Format", store.Format(d), journal.Format(want))
				sameDisk(t, "Format", d, want)
			}
		}
	}
	p := made(t, 20, most)
	p.do(put("a", text(100)), put("b", ""))
	err(t, "Format", store.Format(p.d), api.OK)
	q, _ := open(t, p.d, most)
	q.has("Format", nil)
}

// P6.1: the quota may be from 0 to 2^20; it is looked at ahead of the disk.
func TestOpenQuota(t *testing.T) {
	d := formatted(t, 8)
	for _, c := range []struct {
		quota int
		err   api.Errno
	}{
		{0, api.OK}, {1, api.OK}, {most - 1, api.OK}, {most, api.OK},
		{-1, api.ErrArg}, {most + 1, api.ErrArg}, {-1 << 63, api.ErrArg}, {1<<63 - 1, api.ErrArg},
	} {
		p, e := open(t, d, c.quota)
		err(t, "Open", e, c.err)
		if e == api.OK && p.s.Quota() != c.quota {
			t.Errorf("Quota %d, want %d", p.s.Quota(), c.quota)
		}
	}
	small, _ := disk.New(3)
	for _, x := range []*disk.Disk{nil, small, journaled(t, 8, "")} {
		if s, e := store.Open(x, -1); s != nil || e != api.ErrArg {
			t.Errorf("Open = %v, %d", s, int(e))
		}
	}
}

// P6.1: the errors of journal.
func TestOpenJournal(t *testing.T) {
	if s, e := store.Open(nil, 0); s != nil || e != api.ErrNil {
		t.Errorf("Open of nil = %v, %d", s, int(e))
	}
	small, _ := disk.New(3)
	_, e := open(t, small, 0)
	err(t, "Open of three sectors", e, api.ErrArg)
	empty, _ := disk.New(4)
	_, e = open(t, empty, 0)
	err(t, "Open of zeros", e, api.ErrNone)
	for _, c := range []struct {
		s   string
		err api.Errno
	}{{"\x05abc", api.ErrShort}, {"\x80\x00", api.ErrForm}, {"\x01a\x00\x00\x00\x00", api.ErrSum}} {
		d := formatted(t, 4)
		d.Write(0, headed(2, len(c.s)))
		d.Write(2, c.s)
		_, e = open(t, d, 0)
		err(t, "Open of bad records", e, c.err)
	}
	down := journaled(t, 8, "")
	down.Arm(1)
	down.Flush()
	_, e = open(t, down, 0)
	err(t, "Open while down", e, api.ErrDown)
	down.Crash()
	_, e = open(t, down, 0)
	err(t, "Open", e, api.ErrForm)
}

// P6.1: all transactions are done in their order, and the changes of each, too; a key of which there is nothing may be gone.
func TestOpen(t *testing.T) {
	key, s := text(32), text(4096)
	for _, c := range []struct{ l, want []store.Change }{
		{nil, nil},
		{[]store.Change{put("a", "1")}, []store.Change{put("a", "1")}},
		{[]store.Change{put("a", "1"), put("a", "2")}, []store.Change{put("a", "2")}},
		{[]store.Change{put("b", "1"), put("a", ""), put("c", "3")}, []store.Change{put("a", ""), put("b", "1"), put("c", "3")}},
		{[]store.Change{put("a", "1"), gone("a")}, nil},
		{[]store.Change{gone("a"), put("a", "1")}, []store.Change{put("a", "1")}},
		{[]store.Change{put("a", "1"), gone("a"), gone("a"), put("a", "")}, []store.Change{put("a", "")}},
		{[]store.Change{put("a", "1"), gone("b")}, []store.Change{put("a", "1")}},
		{[]store.Change{put(key, s), put("\x00", "\xff\x00")}, []store.Change{put("\x00", "\xff\x00"), put(key, s)}},
	} {
		var each []string
		for _, x := range c.l {
			each = append(each, txn(x))
		}
		if len(c.l) > 0 {
			p, _ := open(t, journaled(t, 200, txn(c.l...)), 0)
			p.has("one transaction", c.want)
		}
		p, _ := open(t, journaled(t, 200, each...), 0)
		p.has("a transaction each", c.want)
	}
}

// P6.1: records that are no transaction of valid changes, alone, and ahead of or behind ones that are.
func TestOpenForm(t *testing.T) {
	good := txn(put("a", "1"), gone("b"))
	key, s := text(32), text(4096)
	for _, bad := range []string{
		// Nothing, or not all of it.
		"", "\x01", "\x01a", "\x01a\x00", "\x01a\x00\x01", "\x02a\x01", "\x05a\x00\x00",
		// More than one, the last one not whole.
		good + "\x01", good + "\x00", "\x01a\x00\x00\x00", "\x01a\x01\x00",
		// Neither gone nor a value.
		"\x01a\x02", "\x01a\x02\x00", "\x01a\x7f\x01b", "\x01a\x81\x01", "\x01a\x80\x02\x00",
		// Numbers that nobody lays.
		"\x81\x00a\x01", "\x01a\x80\x00\x00", "\x01a\x81\x00", "\x01a\x00\x81\x00b", strings.Repeat("\xff", 9) + "a",
		// Changes that are not valid.
		"\x00\x00\x00", "\x00\x01", txn(put("", "1")), txn(gone("")), txn(put(key+"x", "1")), txn(gone(key + "x")), txn(put("a", s+"x")),
		txn(put("a", "1"), put("", "2")), txn(gone(""), put("a", "1")), txn(put("a", s+"x"), put("a", "1")),
	} {
		for _, l := range [][]string{{bad}, {good, bad}, {bad, good}, {good, bad, good}} {
			if _, e := open(t, journaled(t, 400, l...), most); e != api.ErrForm {
				t.Errorf("Open of %q = %d", l, int(e))
			}
		}
	}
	_, e := open(t, journaled(t, 400, txn(put(key, s)), txn(gone(key))), most)
	err(t, "Open of the greatest", e, api.OK)
}

// P6.1: neither the quota nor the number of changes is looked at in what is there.
func TestOpenMore(t *testing.T) {
	p := made(t, 100, 1000)
	p.do(put("a", text(500)), put("b", text(400)))
	for _, quota := range []int{0, 1, 901, 902} {
		q, e := open(t, p.d, quota)
		err(t, "Open", e, api.OK)
		q.has("more than the quota", p.m.l)
	}
	l := slices.Repeat([]store.Change{put("a", "1"), gone("a")}, 600)
	q, e := open(t, journaled(t, 400, txn(append(l, put("b", ""))...)), 0)
	err(t, "Open of 1201 changes", e, api.OK)
	q.has("of 1201 changes", []store.Change{put("b", "")})
}

// P6.1: values beyond what a half has room for are read, where fewer records hold them.
func TestOpenFull(t *testing.T) {
	p, e := open(t, journaled(t, 4, txn(put("a", ""), put("b", ""), put("c", ""), put("d", ""), put("e", ""), put("f", ""), put("g", ""), put("h", ""))), most)
	err(t, "Open", e, api.OK)
	if p.s.Len() != 8 {
		t.Errorf("Len %d", p.s.Len())
	}
	err(t, "Do where too much stays", p.do(put("a", "")), api.ErrFull)
	err(t, "Do where too much stays", p.do(gone("x")), api.ErrFull)
	err(t, "Do", p.do(gone("a")), api.OK)
}

// P6.1: to open a store changes none that is open, and nothing on the disk.
func TestOpenAgain(t *testing.T) {
	p := made(t, 20, most)
	p.do(put("a", "1"))
	other, _ := store.Open(p.d, 5)
	if other.Len() != 1 || other.Quota() != 5 || p.s.Quota() != most {
		t.Errorf("Len %d, Quota %d and %d", other.Len(), other.Quota(), p.s.Quota())
	}
	p.do(put("b", "2"))
	if other.Len() != 1 || other.Bytes() != 2 {
		t.Errorf("Len %d, Bytes %d", other.Len(), other.Bytes())
	}
}

// P6.1, R1: whatever records there are.
func FuzzOpen(f *testing.F) {
	f.Add("", "\x01a\x00\x011", 0)
	f.Add("\x01a\x00\x011\x01b\x01", "\x01a\x01", 3)
	f.Add("\x01a\x02", "\x00\x01", most)
	f.Fuzz(func(t *testing.T, a, b string, quota int) {
		for _, l := range [][]string{{a}, {a, b}, {b, a, b}} {
			for i, r := range l {
				l[i] = r[:min(len(r), 9000)]
			}
			p, e := open(t, journaled(t, 1000, l...), quota)
			if e != api.OK {
				continue
			}
			for _, r := range l {
				c, _ := changes(r)
				p.do(c...)
			}
		}
	})
}
