package journal

import (
	"strings"

	"lighterage/api"
	"lighterage/crc"
	"lighterage/disk"
	"lighterage/leb"
)

const (
	mark     = "LIGHTER" // what a head begins with
	sumBytes = 4
)

// head is a head's number, and how many bytes are used of which half.
type head struct {
	seq, half, used int
}

// text lays a head.
func (h head) text() string {
	// No error can come, as none of the numbers is negative, and they are few.
	s, _ := leb.Lay(leb.N(h.seq), leb.N(h.half), leb.N(h.used))
	return mark + s + crc.Four(mark+s)
}

// set lets a head be safe in the sector that is its number's, which is not that of the head ahead of it.
func (h head) set(d *disk.Disk) api.Errno {
	if e := d.Write(h.seq%heads, h.text()); e != api.OK {
		return e
	}
	return d.Flush()
}

// readHead reads the head that a sector begins with, if it is one of halves of so many bytes.
func readHead(s string, size int) (head, bool) {
	fields, ok := strings.CutPrefix(s, mark)
	if !ok {
		return head{}, false
	}
	x := leb.Over(fields)
	h := head{seq: x.N(), half: x.N(), used: x.N()}
	if x.Err() != api.OK || h.half >= halves || h.used > size {
		return head{}, false
	}
	// The sum is within the sector, as even the longest three numbers leave room for it.
	sum := len(s) - x.Left()
	if crc.Check(s[:sum], s[sum:sum+sumBytes]) != api.OK {
		return head{}, false
	}
	return h, true
}

// newest tells the head that holds.
func newest(d *disk.Disk) (head, api.Errno) {
	var best head
	err := api.ErrNone
search:
	for at := range heads {
		s, e := d.Read(at)
		if e != api.OK {
			return head{}, e
		}
		h, ok := readHead(s, halfBytes(d))
		// Of two with the same number the first one stays.
		if !ok || err == api.OK && h.seq <= best.seq {
			continue search
		}
		best, err = h, api.OK
	}
	return best, err
}
