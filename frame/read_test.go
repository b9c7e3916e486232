package frame_test

import (
	"slices"
	"strings"
	"testing"

	"lighterage/api"
	"lighterage/frame"
)

// P4.2: a record, whatever stands behind it.
func TestFirst(t *testing.T) {
	long := strings.Repeat("z", 300)
	for _, r := range []string{"", "a", "123456789", "\x00", "\x00\x00\x00\x00", "\xff\xff\xff\xff", "\x01a\x30\x43\xd0\xc1", long, strings.Repeat(long, 60)} {
		s := framed(r)
		for _, behind := range []string{"", "\x00", "x", "\x80\x00", s, s[:len(s)-1], long} {
			firstIs(t, s+behind, r, len(s), api.OK)
		}
	}
}

// P4.2: bytes that are no record, by the error that is told of them.
func TestFirstWrong(t *testing.T) {
	nine, sum := strings.Repeat("\xff", 9), "\x83\x92\x06\xe3"
	cases := []struct {
		s   string
		err api.Errno
	}{
		// The length ends.
		{"", api.ErrShort},
		{"\x80", api.ErrShort},
		{"\xff\xff", api.ErrShort},
		{nine[:8], api.ErrShort},
		// The bytes end, whatever those that are there would be as a sum.
		{"\x01", api.ErrShort},
		{"\x09", api.ErrShort},
		{"\x0912345678", api.ErrShort},
		{"\x04\x00\x00\x00", api.ErrShort},
		{"\xac\x02123456789" + sum, api.ErrShort},
		{nine[:8] + "\x7f123456789" + sum, api.ErrShort}, // MaxCount bytes
		// The sum ends, whether its bytes are right or not.
		{"\x00", api.ErrShort},
		{"\x00\x00\x00\x00", api.ErrShort},
		{"\x00\x01\x02\x03", api.ErrShort},
		{"\x09123456789", api.ErrShort},
		{"\x09123456789" + sum[:1], api.ErrShort},
		{"\x09123456789" + sum[:3], api.ErrShort},
		{"\x09123456789" + sum[1:], api.ErrShort},
		{"\x09123456789\x00\x00\x00", api.ErrShort},
		// The length is one that nobody lays, whatever stands behind it.
		{"\x80\x00", api.ErrForm},
		{"\x80\x00\x00\x00\x00\x00", api.ErrForm},
		{"\x89\x00123456789" + sum, api.ErrForm},
		{"\x89\x80\x00123456789" + sum, api.ErrForm},
		{nine, api.ErrForm},
		{nine + "\x01123456789" + sum, api.ErrForm},
		{nine[:8] + "\x80", api.ErrForm},
		// The sum is another one.
		{"\x00\x00\x00\x00\x01", api.ErrSum},
		{"\x00\x01\x00\x00\x00\x00", api.ErrSum},
		{"\x09123456789\xe3\x06\x92\x83", api.ErrSum},
		{"\x09123456780" + sum, api.ErrSum},
		{"\x08123456789" + sum, api.ErrSum},
		{"\x04\x83\x92\x06\xe3\x00\x00\x00\x00", api.ErrSum},
		{"\x09123456789\x00\x00\x00\x00" + sum, api.ErrSum},
	}
	good := framed("good", "")
	for _, c := range cases {
		firstIs(t, c.s, "", 0, c.err)
		if c.s != "" {
			readIs(t, c.s, nil, c.err)
			readIs(t, good+c.s, nil, c.err)
		}
	}
}

// P4.2: of all that a list begins with only whole records are read well.
func TestReadCut(t *testing.T) {
	l := []string{"a", "", strings.Repeat("b", 130), "123456789"}
	s := framed(l...)
	whole := map[int]int{}
	for n := range len(l) + 1 {
		whole[len(framed(l[:n]...))] = n
	}
	for at := range len(s) + 1 {
		if n, ok := whole[at]; ok {
			readIs(t, s[:at], l[:n], api.OK)
		} else {
			readIs(t, s[:at], nil, api.ErrShort)
		}
	}
}

// P4.2: a byte behind the last record is the beginning of one more, whatever it is.
func TestReadMore(t *testing.T) {
	for c := range 256 {
		readIs(t, framed("a", "b")+string([]byte{byte(c)}), nil, api.ErrShort)
	}
}

// P4.2: each bit that is spoilt is found, as the error that is met first.
func TestReadSpoilt(t *testing.T) {
	s := framed("a", "", strings.Repeat("b", 130), "123456789")
	for bit := range 8 * len(s) {
		b := []byte(s)
		b[bit/8] ^= 1 << (bit % 8)
		want, err := read(string(b))
		if err == api.OK {
			t.Errorf("bit %d spoilt is no error of the model", bit)
		}
		readIs(t, string(b), want, err)
	}
}

// P4.2: the first error is told, whatever is wrong behind it.
func TestReadFirstError(t *testing.T) {
	good, sum, form, short := framed("good"), "\x00\x00\x00\x00\x01", "\x80\x00", "\x05abc"
	for _, c := range []struct {
		s   string
		err api.Errno
	}{
		{good + sum + form, api.ErrSum},
		{good + sum + good, api.ErrSum},
		{sum + good, api.ErrSum},
		{good + form + sum, api.ErrForm},
		{good + good + form + good, api.ErrForm},
		{good + short, api.ErrShort},
		{good + sum + short, api.ErrSum},
	} {
		readIs(t, c.s, nil, c.err)
	}
}

// P4.2: nothing says a limit of what is read: more records than Lay lays, and a longer one.
func TestReadLong(t *testing.T) {
	long := strings.Repeat("0123456789", api.MaxBlob/5)
	s := framed(long)
	firstIs(t, s, long, len(s), api.OK)
	firstIs(t, s+"\x01", long, len(s), api.OK)
	readIs(t, s+s, []string{long, long}, api.OK)
	readIs(t, framed(empties(api.MaxBlob)...), empties(api.MaxBlob), api.OK)
	readIs(t, s[:len(s)-1], nil, api.ErrShort)
	readIs(t, s[:len(s)-1]+"\x00", nil, api.ErrSum)
}

// P4.2, R3: each list is its caller's own.
func TestReadApart(t *testing.T) {
	s := framed("a", "b")
	l, _ := frame.Read(s)
	l[0] = "z"
	readIs(t, s, []string{"a", "b"}, api.OK)
}

// P4.3: records of many lengths and kinds come back, one by one and all of them.
func TestBack(t *testing.T) {
	all := append(lists(), empties(api.MaxBlob/5), []string{strings.Repeat("x", api.MaxBlob-7)})
	for _, l := range all {
		s, e := frame.Lay(l...)
		if e != api.OK {
			t.Fatalf("Lay of %d records: %d", len(l), int(e))
		}
		readIs(t, s, l, api.OK)
		rest := s
		for i, r := range l {
			q, n, e := frame.First(rest)
			if q != r || n != frame.Size(r) || e != api.OK {
				t.Fatalf("record %d of %d: %x, %d, %d", i, len(l), brief(q), n, int(e))
			}
			rest = rest[n:]
		}
		if rest != "" {
			t.Errorf("%d bytes are left", len(rest))
		}
	}
}

// P4.3: a record that is itself records comes back as it is.
func TestBackNested(t *testing.T) {
	r := ""
	for range 20 {
		s, e := frame.Lay(r, "a")
		if e != api.OK {
			t.Fatal(int(e))
		}
		readIs(t, s, []string{r, "a"}, api.OK)
		r = s
	}
}

// again tells whether bytes that can be read are laid as the same bytes.
func again(t *testing.T, s string) {
	t.Helper()
	l, e := frame.Read(s)
	if want, err := read(s); !slices.Equal(l, want) || e != err {
		t.Errorf("Read(%x) = %q, %d, want %q, %d", s, l, int(e), want, int(err))
	}
	if e != api.OK || len(s) > api.MaxBlob {
		return
	}
	if back, e := frame.Lay(l...); back != s || e != api.OK {
		t.Errorf("%x was read, %x is laid, %d", s, back, int(e))
	}
	if n := frame.Size(l...); n != len(s) {
		t.Errorf("%x was read, its size is %d", s, n)
	}
}

// P4.3: of bytes that are nearly a record, by every first two, none is read that is laid otherwise.
func TestOnlyOne(t *testing.T) {
	for a := range 256 {
		for b := range 256 {
			ab := string([]byte{byte(a), byte(b)})
			again(t, ab)
			again(t, ab+"\x00\x00\x00\x00")
			again(t, ab+"\x30\x43\xd0\xc1")
			again(t, ab+"a\x30\x43\xd0\xc1")
		}
	}
}

// P4.1 to P4.3, R1: whatever the bytes are, as records, and as what is to be read.
func FuzzRead(f *testing.F) {
	f.Add("", "", uint8(0))
	f.Add("\x01a\x30\x43\xd0\xc1", "\x09123456789\x83\x92\x06\xe3", uint8(3))
	f.Add("\x80\x00", "\x00\x00\x00\x00\x00", uint8(200))
	f.Fuzz(func(t *testing.T, s, r string, cut uint8) {
		again(t, s)
		want, n, err := first(s)
		firstIs(t, s, want, n, err)
		laidIs(t, "fuzzed", []string{s, r})
		both := framed(s, r)
		again(t, both)
		again(t, both[:len(both)*int(cut)/256])
	})
}
