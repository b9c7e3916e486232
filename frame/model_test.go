package frame_test

import (
	"encoding/binary"
	"hash/crc32"
	"slices"
	"strings"
	"testing"

	"lighterage/api"
	"lighterage/frame"
)

// framed is records as the document says it, by the library's own numbers and sums, however many bytes these are.
func framed(l ...string) string {
	var b []byte
	table := crc32.MakeTable(crc32.Castagnoli)
	for _, r := range l {
		b = binary.AppendUvarint(b, uint64(len(r)))
		b = append(b, r...)
		b = binary.LittleEndian.AppendUint32(b, crc32.Checksum([]byte(r), table))
	}
	return string(b)
}

// length reads a number byte by byte, as the chapter of leb says it: the number, and how many bytes it stands in.
func length(s string) (int, int, api.Errno) {
	n := 0
	for i := 0; ; i++ {
		if i == len(s) {
			return 0, 0, api.ErrShort
		}
		b := int(s[i])
		if i > 0 && b == 0 || i == 8 && b >= 128 {
			return 0, 0, api.ErrForm
		}
		n += b % 128 << (7 * i)
		if b < 128 {
			return n, i + 1, api.OK
		}
	}
}

// first is a record that is read as the document says it.
func first(s string) (string, int, api.Errno) {
	n, at, e := length(s)
	if e != api.OK {
		return "", 0, e
	}
	if n > len(s)-at || len(s)-at-n < 4 {
		return "", 0, api.ErrShort
	}
	r, end := s[at:at+n], at+n+4
	if framed(r) != s[:end] {
		return "", 0, api.ErrSum
	}
	return r, end, api.OK
}

// read is records that are read as the document says it.
func read(s string) ([]string, api.Errno) {
	var l []string
	for s != "" {
		r, n, e := first(s)
		if e != api.OK {
			return nil, e
		}
		l, s = append(l, r), s[n:]
	}
	return l, api.OK
}

// brief is bytes as a test tells them: not all of many.
func brief(s string) string {
	if len(s) > 80 {
		return s[:80] + ".."
	}
	return s
}

// firstIs tells whether First of bytes is what it should be.
func firstIs(t *testing.T, s, want string, size int, err api.Errno) {
	t.Helper()
	// Twice, as what is read hangs on nothing that was read ahead of it.
	for range 2 {
		if r, n, e := frame.First(s); r != want || n != size || e != err {
			t.Errorf("First(%x) = %x, %d, %d, want %x, %d, %d", brief(s), brief(r), n, int(e), brief(want), size, int(err))
		}
	}
}

// readIs tells whether Read of bytes is what it should be.
func readIs(t *testing.T, s string, want []string, err api.Errno) {
	t.Helper()
	for range 2 {
		if l, e := frame.Read(s); !slices.Equal(l, want) || e != err {
			t.Errorf("Read(%x) = %d records, %d, want %d, %d", brief(s), len(l), int(e), len(want), int(err))
		}
	}
}

// laidIs tells whether Lay and Size of records are what they should be.
func laidIs(t *testing.T, what string, l []string) {
	t.Helper()
	want, size, err := framed(l...), len(framed(l...)), api.OK
	if size > api.MaxBlob {
		want, size, err = "", api.MaxBlob+1, api.ErrBig
	}
	for range 2 {
		if s, e := frame.Lay(l...); s != want || e != err {
			t.Errorf("%s: Lay = %x (%d bytes), %d, want %x (%d bytes), %d", what, brief(s), len(s), int(e), brief(want), len(want), int(err))
		}
		if n := frame.Size(l...); n != size {
			t.Errorf("%s: Size = %d, want %d", what, n, size)
		}
	}
}

// chance makes a function that tells a number below the one that it is asked for, always the same ones.
func chance(seed uint64) func(int) int {
	return func(n int) int {
		seed = seed*6364136223846793005 + 1442695040888963407
		return int(seed>>33) % n
	}
}

// lists are records of many lengths and kinds, many of them and few.
func lists() [][]string {
	next := chance(11)
	var all [][]string
	for range 300 {
		var l []string
		for range next(12) {
			b := make([]byte, next(200)>>next(8))
			for i := range b {
				b[i] = byte(next(256)) & byte(-next(2))
			}
			l = append(l, string(b))
		}
		all = append(all, l)
	}
	return append(all, []string{strings.Repeat("long", 5000), "", strings.Repeat("\x00", 20000)})
}
