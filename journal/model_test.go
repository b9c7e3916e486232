package journal_test

import (
	"encoding/binary"
	"hash/crc32"
	"math"
	"slices"
	"strings"

	"lighterage/api"
	"lighterage/disk"
)

// sumOf is the four bytes of a sum, by the library's own sums.
func sumOf(s string) string {
	sum := crc32.Checksum([]byte(s), crc32.MakeTable(crc32.Castagnoli))
	return string(binary.LittleEndian.AppendUint32(nil, sum))
}

// framed is records, one behind the other, however many bytes these are.
func framed(l ...string) string {
	var b []byte
	for _, r := range l {
		b = binary.AppendUvarint(b, uint64(len(r)))
		b = append(b, r+sumOf(r)...)
	}
	return string(b)
}

// headed is a head as the document says it, of any numbers.
func headed(seq, half, used int) string {
	b := []byte("LIGHTER")
	for _, n := range []int{seq, half, used} {
		b = binary.AppendUvarint(b, uint64(n))
	}
	return string(b) + sumOf(string(b))
}

// padded is 64 bytes.
func padded(s string) string { return s + strings.Repeat("\x00", api.Sector-len(s)) }

// halfOf is how many sectors a half of a disk has.
func halfOf(sectors int) int { return (sectors - 2) / 2 }

// step is one call of the disk.
type step struct {
	flush bool
	at    int
	s     string
}

// model is a journal as the document says it, on a disk of its own, to which the steps are done that the document names.
type model struct {
	d         *disk.Disk
	seq, half int
	l         []string
	used      string // the bytes of the current half
	broken    bool
}

// do does steps, up to the first error.
func (m *model) do(l []step) api.Errno {
	for _, x := range l {
		e := api.OK
		if x.flush {
			e = m.d.Flush()
		} else {
			e = m.d.Write(x.at, x.s)
		}
		if e != api.OK {
			return e
		}
	}
	return api.OK
}

// size is how many bytes a half has room for.
func (m *model) size() int { return halfOf(m.d.Len()) * api.Sector }

// steps are those of a half that has ahead in it, and has new ones to come.
func (m *model) steps(half int, ahead, more string) []step {
	all, first := ahead+more, 2+half*halfOf(m.d.Len())
	var l []step
	for i := range halfOf(m.d.Len()) {
		from, to := i*api.Sector, (i+1)*api.Sector
		if to > len(ahead) && from < len(all) && more != "" {
			l = append(l, step{at: first + i, s: all[from:min(to, len(all))]})
		}
	}
	return append(l, step{flush: true}, step{at: (m.seq + 1) % 2, s: headed(m.seq+1, half, len(all))}, step{flush: true})
}

// keep is Append, and Rewrite, behind what they ask first.
func (m *model) keep(half int, ahead string, l, more []string) api.Errno {
	s := framed(more...)
	if len(s) > api.MaxBlob {
		return api.ErrBig
	}
	if len(ahead)+len(s) > m.size() {
		return api.ErrFull
	}
	if e := m.do(m.steps(half, ahead, s)); e != api.OK {
		m.broken = true
		return e
	}
	m.seq, m.half, m.used = m.seq+1, half, ahead+s
	m.l = append(slices.Clone(l), more...)
	return api.OK
}

func (m *model) ready() api.Errno {
	if m.broken {
		return api.ErrState
	}
	if m.seq == math.MaxInt64 {
		return api.ErrCount
	}
	return api.OK
}

func (m *model) append(l ...string) api.Errno {
	if e := m.ready(); e != api.OK || len(l) == 0 {
		return e
	}
	return m.keep(m.half, m.used, m.l, l)
}

func (m *model) rewrite(l ...string) api.Errno {
	if e := m.ready(); e != api.OK {
		return e
	}
	return m.keep(1-m.half, "", nil, l)
}

// number is a number that is read byte by byte, as the chapter of leb says it, and what is behind it.
func number(s string) (int, string, api.Errno) {
	n := 0
	for i := 0; ; i++ {
		if i == len(s) {
			return 0, "", api.ErrShort
		}
		b := int(s[i])
		if i > 0 && b == 0 || i == 8 && b >= 128 {
			return 0, "", api.ErrForm
		}
		n += b % 128 << (7 * i)
		if b < 128 {
			return n, s[i+1:], api.OK
		}
	}
}

// headIn is the numbers of the head that a sector begins with.
func headIn(s string, size int) (l [3]int, ok bool) {
	if !strings.HasPrefix(s, "LIGHTER") {
		return l, false
	}
	rest := s[7:]
	for i := range l {
		var e api.Errno
		if l[i], rest, e = number(rest); e != api.OK {
			return l, false
		}
	}
	return l, strings.HasPrefix(s, headed(l[0], l[1], l[2])) && l[1] <= 1 && l[2] <= size
}

// read is records that are read as the chapter of frame says it.
func read(s string) ([]string, api.Errno) {
	var l []string
	for s != "" {
		n, rest, e := number(s)
		if e != api.OK {
			return nil, e
		}
		if n > len(rest) || len(rest)-n < 4 {
			return nil, api.ErrShort
		}
		if sumOf(rest[:n]) != rest[n:n+4] {
			return nil, api.ErrSum
		}
		l, s = append(l, rest[:n]), rest[n+4:]
	}
	return l, api.OK
}

// opened is a model of what is on a disk.
func opened(d *disk.Disk) (*model, api.Errno) {
	m := &model{d: d, seq: -1}
	used := 0
	for at := range 2 {
		s, e := d.Read(at)
		if e != api.OK {
			return nil, e
		}
		if l, ok := headIn(s, m.size()); ok && l[0] > m.seq {
			m.seq, m.half, used = l[0], l[1], l[2]
		}
	}
	if m.seq < 0 {
		return nil, api.ErrNone
	}
	all := ""
	for i := range halfOf(d.Len()) {
		s, e := d.Read(2 + m.half*halfOf(d.Len()) + i)
		if e != api.OK {
			return nil, e
		}
		all += s
	}
	m.used = all[:used]
	l, e := read(m.used)
	m.l = l
	return m, e
}
