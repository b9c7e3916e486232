package store_test

import (
	"encoding/binary"
	"hash/crc32"
	"math"
	"slices"
	"strings"

	"lighterage/api"
	"lighterage/disk"
	"lighterage/journal"
	"lighterage/store"
)

// put and gone are changes.
func put(key, s string) store.Change { return store.Change{Key: key, S: s} }
func gone(key string) store.Change   { return store.Change{Key: key, Gone: true} }

// text is n bytes.
func text(n int) string { return strings.Repeat("0123456789", n/10+1)[:n] }

// txn is changes as a record, as the document says it, of whatever changes.
func txn(l ...store.Change) string {
	var b []byte
	for _, c := range l {
		b = binary.AppendUvarint(b, uint64(len(c.Key)))
		b = append(b, c.Key...)
		if c.Gone {
			b = append(b, 1)
			continue
		}
		b = append(b, 0)
		b = binary.AppendUvarint(b, uint64(len(c.S)))
		b = append(b, c.S...)
	}
	return string(b)
}

// framed is a record as frame lays it.
func framed(r string) string {
	b := binary.AppendUvarint(nil, uint64(len(r)))
	b = append(b, r...)
	sum := crc32.Checksum([]byte(r), crc32.MakeTable(crc32.Castagnoli))
	return string(binary.LittleEndian.AppendUint32(b, sum))
}

// headed is a head of a journal whose used bytes are in its first half.
func headed(seq, used int) string {
	b := []byte("LIGHTER")
	for _, n := range []int{seq, 0, used} {
		b = binary.AppendUvarint(b, uint64(n))
	}
	sum := crc32.Checksum(b, crc32.MakeTable(crc32.Castagnoli))
	return string(binary.LittleEndian.AppendUint32(b, sum))
}

// valid tells whether a change may be.
func valid(c store.Change) bool {
	return len(c.Key) >= 1 && len(c.Key) <= 32 && len(c.S) <= 4096 && (!c.Gone || c.S == "")
}

// model is a store as the document says it, with a journal on a disk of its own.
type model struct {
	d      *disk.Disk
	j      *journal.Journal
	l      []store.Change // the values, by rising keys
	quota  int
	broken bool
}

// behind are values behind a change.
func behind(l []store.Change, c store.Change) []store.Change {
	var out []store.Change
	for _, x := range l {
		if x.Key != c.Key {
			out = append(out, x)
		}
	}
	if !c.Gone {
		out = append(out, c)
	}
	slices.SortFunc(out, func(a, b store.Change) int { return strings.Compare(a.Key, b.Key) })
	return out
}

// behindAll are values behind changes in their order.
func behindAll(l, changes []store.Change) []store.Change {
	for _, c := range changes {
		l = behind(l, c)
	}
	return l
}

// bytes is how many keys and values have.
func bytes(l []store.Change) int {
	n := 0
	for _, c := range l {
		n += len(c.Key) + len(c.S)
	}
	return n
}

// records are those of values, each in a transaction of its own, and how many bytes frame lays of them.
func records(l []store.Change) ([]string, int) {
	var out []string
	n := 0
	for _, c := range l {
		out = append(out, txn(c))
		n += len(framed(txn(c)))
	}
	return out, n
}

// check is Check of changes, and the values behind them.
func (m *model) check(l []store.Change) ([]store.Change, api.Errno) {
	if m.broken {
		return nil, api.ErrDown
	}
	if len(l) == 0 || len(l) > 1024 || slices.ContainsFunc(l, func(c store.Change) bool { return !valid(c) }) {
		return nil, api.ErrArg
	}
	next := behindAll(m.l, l)
	if bytes(next) > m.quota && bytes(next) > bytes(m.l) {
		return nil, api.ErrQuota
	}
	return next, api.OK
}

// do is Do of changes.
func (m *model) do(l []store.Change) api.Errno {
	next, e := m.check(l)
	if e != api.OK {
		return e
	}
	alone, n := records(next)
	if half := (m.d.Len() - 2) / 2 * 64; n > half || n > 1<<16 {
		return api.ErrFull
	}
	if r := txn(l...); len(r) > 1<<16 {
		e = m.j.Rewrite(alone...)
	} else if e = m.j.Append(r); e == api.ErrFull || e == api.ErrBig {
		e = m.j.Rewrite(alone...)
	}
	if e != api.OK {
		m.broken = true
		return e
	}
	m.l = next
	return api.OK
}

// number is a number that is read, and what is behind it; false where there is none that leb lays.
func number(s string) (int, string, bool) {
	n, size := binary.Uvarint([]byte(s))
	if size <= 0 || n > math.MaxInt || len(binary.AppendUvarint(nil, n)) != size {
		return 0, "", false
	}
	return int(n), s[size:], true
}

// letters is a text that is read, likewise.
func letters(s string) (string, string, bool) {
	n, rest, ok := number(s)
	if !ok || n > len(rest) {
		return "", "", false
	}
	return rest[:n], rest[n:], true
}

// changes are those of a record; false where it is no transaction of valid ones.
func changes(s string) ([]store.Change, bool) {
	var l []store.Change
	for s != "" {
		var c store.Change
		var n int
		var ok bool
		if c.Key, s, ok = letters(s); !ok {
			return nil, false
		}
		if n, s, ok = number(s); !ok || n > 1 {
			return nil, false
		}
		c.Gone = n == 1
		if !c.Gone {
			if c.S, s, ok = letters(s); !ok {
				return nil, false
			}
		}
		if !valid(c) {
			return nil, false
		}
		l = append(l, c)
	}
	return l, len(l) > 0
}

// opened is a model of what is on a disk.
func opened(d *disk.Disk, quota int) (*model, api.Errno) {
	if quota < 0 || quota > 1<<20 {
		return nil, api.ErrArg
	}
	j, l, e := journal.Open(d)
	if e != api.OK {
		return nil, e
	}
	m := &model{d: d, j: j, quota: quota}
	for _, r := range l {
		l, ok := changes(r)
		if !ok {
			return nil, api.ErrForm
		}
		m.l = behindAll(m.l, l)
	}
	return m, api.OK
}
