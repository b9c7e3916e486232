package crc_test

import (
	"hash/crc32"
	"math"
	"strings"
	"testing"

	"lighterage/api"
	"lighterage/crc"
)

// powers are those of the divisor, as the document lists them.
var powers = []int{32, 28, 27, 26, 25, 23, 22, 20, 19, 18, 14, 13, 11, 10, 9, 8, 6, 0}

// divided works the sum out as the document says it: by a long division, coefficient by coefficient.
func divided(s string) int {
	var bits []bool
	for i := range len(s) {
		for bit := range 8 {
			bits = append(bits, s[i]>>bit&1 == 1)
		}
	}
	bits = append(bits, make([]bool, 32)...)
	for i := range 32 {
		bits[i] = !bits[i]
	}
	for i := range len(bits) - 32 {
		if bits[i] {
			for _, p := range powers {
				bits[i+32-p] = !bits[i+32-p]
			}
		}
	}
	sum := 0
	for i, b := range bits[len(bits)-32:] {
		if !b {
			sum |= 1 << i
		}
	}
	return sum
}

// chance makes a function that tells as many bytes as it is asked for, always the same ones.
func chance(seed uint64) func(n int) string {
	return func(n int) string {
		b := make([]byte, n)
		for i := range b {
			seed = seed*6364136223846793005 + 1442695040888963407
			b[i] = byte(seed >> 56)
		}
		return string(b)
	}
}

// flipped is s with one bit the other way.
func flipped(s string, bit int) string {
	b := []byte(s)
	b[bit/8] ^= 1 << (bit % 8)
	return string(b)
}

// texts are bytes of many lengths and kinds.
func texts() []string {
	l := []string{"", "123456789", "\x00\xff", strings.Repeat("ab", 3000)}
	for c := range 256 {
		l = append(l, string([]byte{byte(c)}))
	}
	next := chance(2)
	for n := range 70 {
		l = append(l, next(n), strings.Repeat("\x00", n), strings.Repeat("\xff", n))
	}
	return l
}

// P2.1: sums that are written down elsewhere.
func TestSum(t *testing.T) {
	up, down := make([]byte, 32), make([]byte, 32)
	for i := range 32 {
		up[i], down[i] = byte(i), byte(31-i)
	}
	cases := []struct {
		s    string
		want int
		four string
	}{
		{"", 0, "\x00\x00\x00\x00"},
		{"123456789", 0xe3069283, "\x83\x92\x06\xe3"},
		{"a", 0xc1d04330, "\x30\x43\xd0\xc1"},
		{strings.Repeat("\x00", 32), 0x8a9136aa, "\xaa\x36\x91\x8a"},
		{strings.Repeat("\xff", 32), 0x62a8ab43, "\x43\xab\xa8\x62"},
		{string(up), 0x46dd794e, "\x4e\x79\xdd\x46"},
		{string(down), 0x113fdb5c, "\x5c\xdb\x3f\x11"},
		// A sum all of whose bits are set, of the bytes that take all bits out of what is divided.
		{"\xff\xff\xff\xff", 0xffffffff, "\xff\xff\xff\xff"},
	}
	for _, c := range cases {
		if n := crc.Sum(c.s); n != c.want {
			t.Errorf("Sum(%q) = %x, want %x", c.s, n, c.want)
		}
		if f := crc.Four(c.s); f != c.four {
			t.Errorf("Four(%q) = %x, want %x", c.s, f, c.four)
		}
	}
}

// P2.1: the sum is the one that the division leaves, and its four bytes are told, the lowest one first.
func TestSumIsDivided(t *testing.T) {
	for _, s := range texts() {
		want := divided(s)
		// Twice, as a sum hangs on nothing that was summed up ahead of it.
		for range 2 {
			n := crc.Sum(s)
			if n != want {
				t.Errorf("Sum(%q) = %x, want %x", s, n, want)
			}
			if n < 0 || n > math.MaxUint32 {
				t.Errorf("Sum(%q) = %d, out of its range", s, n)
			}
			four := string([]byte{byte(n), byte(n >> 8), byte(n >> 16), byte(n >> 24)})
			if f := crc.Four(s); f != four {
				t.Errorf("Four(%q) = %x, want %x", s, f, four)
			}
		}
	}
}

// P2.1: long texts have the sum that the library tells of them.
func TestSumOfLong(t *testing.T) {
	next, table := chance(7), crc32.MakeTable(crc32.Castagnoli)
	for _, n := range []int{api.Sector, api.MaxValue, api.MaxBlob - 1, api.MaxBlob, api.MaxBlob + 1, api.Sector * api.MaxSectors} {
		s := next(n)
		if got, want := crc.Sum(s), int(crc32.Checksum([]byte(s), table)); got != want {
			t.Errorf("of %d bytes: %x, want %x", n, got, want)
		}
	}
}

// P2.2: the four bytes of the sum are found well, of whatever bytes.
func TestCheck(t *testing.T) {
	for _, s := range texts() {
		if e := crc.Check(s, crc.Four(s)); e != api.OK {
			t.Errorf("Check(%q) of its own sum: %d", s, int(e))
		}
	}
	if e := crc.Check("123456789", "\x83\x92\x06\xe3"); e != api.OK {
		t.Errorf("Check of 123456789: %d", int(e))
	}
	if e := crc.Check("", "\x00\x00\x00\x00"); e != api.OK {
		t.Errorf("Check of no bytes: %d", int(e))
	}
}

// P2.2: fewer bytes than four, and more, whatever they begin or end with.
func TestCheckShort(t *testing.T) {
	for _, s := range []string{"", "a", "123456789"} {
		four := crc.Four(s)
		for _, bad := range []string{"", four[:1], four[:3], four[1:], four + "\x00", "\x00" + four, four + four, strings.Repeat("x", api.MaxBlob)} {
			if e := crc.Check(s, bad); e != api.ErrShort {
				t.Errorf("Check(%q, %x) = %d, want ErrShort", s, bad, int(e))
			}
		}
	}
}

// P2.2: four bytes that are not the sum's: other ones by any bit, in another order, or of another text.
func TestCheckSum(t *testing.T) {
	for _, s := range []string{"", "a", "123456789", "\x00\x00"} {
		four := crc.Four(s)
		for bit := range 32 {
			if e := crc.Check(s, flipped(four, bit)); e != api.ErrSum {
				t.Errorf("Check(%q) with bit %d of the sum spoilt: %d, want ErrSum", s, bit, int(e))
			}
		}
		for bit := range 8 * len(s) {
			if e := crc.Check(flipped(s, bit), four); e != api.ErrSum {
				t.Errorf("Check(%q) with bit %d of the bytes spoilt: %d, want ErrSum", s, bit, int(e))
			}
		}
	}
	for _, bad := range []string{"\xe3\x06\x92\x83", "\x7c\x6d\xf9\x1c", "e306", "\x00\x00\x00\x00"} {
		if e := crc.Check("123456789", bad); e != api.ErrSum {
			t.Errorf("Check of 123456789, %x: %d, want ErrSum", bad, int(e))
		}
	}
	if e := crc.Check("a", crc.Four("b")); e != api.ErrSum {
		t.Errorf("Check of a, with the sum of b: %d, want ErrSum", int(e))
	}
}

// mixed is of each place whether an odd number of three bytes have each bit.
func mixed(a, b, c string) string {
	x := make([]byte, len(a))
	for i := range x {
		x[i] = a[i] ^ b[i] ^ c[i]
	}
	return string(x)
}

// P2.3: the sum of three texts mixed is their three sums mixed.
func TestLinear(t *testing.T) {
	next := chance(3)
	for n := range 300 {
		none, all := strings.Repeat("\x00", n), strings.Repeat("\xff", n)
		a, b, c := next(n), next(n), next(n)
		for _, l := range [][3]string{{a, b, c}, {a, b, a}, {a, a, a}, {a, b, none}, {a, all, c}, {none, all, none}} {
			got := crc.Sum(l[0]) ^ crc.Sum(l[1]) ^ crc.Sum(l[2])
			if want := crc.Sum(mixed(l[0], l[1], l[2])); got != want {
				t.Errorf("%x: %x, want %x", l, got, want)
			}
		}
	}
}

// P2.4: one bit that is another one makes another sum.
func TestSingleBits(t *testing.T) {
	next := chance(4)
	for _, n := range []int{1, 2, 3, 4, 5, 8, 31, 32, 33, api.Sector, 300} {
		for _, s := range []string{next(n), strings.Repeat("\x00", n), strings.Repeat("\xff", n)} {
			sum := crc.Sum(s)
			for bit := range 8 * n {
				if crc.Sum(flipped(s, bit)) == sum {
					t.Errorf("%x and bit %d of it spoilt have one sum", s, bit)
				}
			}
		}
	}
	// By P2.3 what one bit does to a sum hangs on how many bits stand behind it alone: this is of all places of a text as long as any that is laid.
	long := next(api.MaxBlob)
	sum := crc.Sum(long)
	for bit := 0; bit < 8*len(long); bit += 8*len(long)/61 + 1 {
		if crc.Sum(flipped(long, bit)) == sum {
			t.Errorf("bit %d of a long text, spoilt, leaves the sum", bit)
		}
	}
}

// P2.1 to P2.4, R1: whatever the bytes are.
func FuzzSum(f *testing.F) {
	f.Add("123456789", "\x83\x92\x06\xe3", 5)
	f.Add("", "", 0)
	f.Add("\xff\xff\xff\xff", "\xff\xff\xff\xff", 31)
	f.Fuzz(func(t *testing.T, s, four string, bit int) {
		if n := crc.Sum(s); n != divided(s) {
			t.Errorf("Sum(%q) = %x, want %x", s, n, divided(s))
		}
		want := api.ErrSum
		if len(four) != 4 {
			want = api.ErrShort
		} else if four == crc.Four(s) {
			want = api.OK
		}
		if e := crc.Check(s, four); e != want {
			t.Errorf("Check(%q, %x) = %d, want %d", s, four, int(e), int(want))
		}
		if bit < 0 || bit >= 8*len(s) {
			return
		}
		if e := crc.Check(flipped(s, bit), crc.Four(s)); e != api.ErrSum {
			t.Errorf("%q with bit %d spoilt: %d, want ErrSum", s, bit, int(e))
		}
	})
}
