package leb_test

import (
	"math"
	"strings"
	"testing"

	"lighterage/api"
	"lighterage/leb"
)

// check holds a reader against what it should tell.
func check(t *testing.T, what string, x *leb.In, left int, err, end api.Errno) {
	t.Helper()
	// Twice, as to be asked changes nothing.
	for range 2 {
		if l := x.Left(); l != left {
			t.Errorf("%s: Left %d, want %d", what, l, left)
		}
		if e := x.Err(); e != err {
			t.Errorf("%s: Err %d, want %d", what, int(e), int(err))
		}
		if e := x.End(); e != end {
			t.Errorf("%s: End %d, want %d", what, int(e), int(end))
		}
	}
}

// stays tells whether a reader that has an error reads nothing more.
func stays(t *testing.T, what string, x *leb.In, err api.Errno) {
	t.Helper()
	check(t, what, x, 0, err, err)
	if n := x.N(); n != 0 {
		t.Errorf("%s: N %d behind an error", what, n)
	}
	if s := x.T(); s != "" {
		t.Errorf("%s: T %q behind an error", what, s)
	}
	check(t, what, x, 0, err, err)
}

// P1.2: fields one behind the other, and what is left at each.
func TestRead(t *testing.T) {
	x := leb.Over("\xac\x02\x01a\x00\x00\xff\x7f")
	check(t, "at the beginning", x, 8, api.OK, api.ErrForm)
	if n := x.N(); n != 300 {
		t.Errorf("N %d, want 300", n)
	}
	check(t, "behind 300", x, 6, api.OK, api.ErrForm)
	if s := x.T(); s != "a" {
		t.Errorf("T %q, want a", s)
	}
	check(t, "behind a", x, 4, api.OK, api.ErrForm)
	if s := x.T(); s != "" {
		t.Errorf("T %q, want none", s)
	}
	check(t, "behind an empty text", x, 3, api.OK, api.ErrForm)
	if n := x.N(); n != 0 {
		t.Errorf("N %d, want 0", n)
	}
	check(t, "behind 0", x, 2, api.OK, api.ErrForm)
	if n := x.N(); n != 16383 {
		t.Errorf("N %d, want 16383", n)
	}
	check(t, "at the end", x, 0, api.OK, api.OK)
	if n := x.N(); n != 0 {
		t.Errorf("N %d behind the end", n)
	}
	stays(t, "behind the end", x, api.ErrShort)
}

// P1.2: numbers that end well, right at the end or ahead of more, and those that do not.
func TestReadNumber(t *testing.T) {
	eight := strings.Repeat("\x80", 8)
	cases := []struct {
		s    string
		n    int
		err  api.Errno
		left int
	}{
		{"\x00", 0, api.OK, 0},
		{"\x00\x00", 0, api.OK, 1},
		{"\x7f", 127, api.OK, 0},
		{"\x80\x01\xff", 128, api.OK, 1},
		{"\xff\x7f", 16383, api.OK, 0},
		{eight + "\x01", 1 << 56, api.OK, 0},
		{eight + "\x7f", 127 << 56, api.OK, 0},
		{strings.Repeat("\xff", 8) + "\x7f", api.MaxCount, api.OK, 0},
		{strings.Repeat("\xff", 8) + "\x7f\x80", api.MaxCount, api.OK, 1},
		{"\x80\x80\x01", 16384, api.OK, 0}, // a group of 0 that is not the last one
		{"", 0, api.ErrShort, 0},
		{"\x80", 0, api.ErrShort, 0},
		{"\xff", 0, api.ErrShort, 0},
		{eight, 0, api.ErrShort, 0},
		{strings.Repeat("\xff", 8), 0, api.ErrShort, 0},
		{"\x80\x00", 0, api.ErrForm, 0},
		{"\xff\x00", 0, api.ErrForm, 0},
		{"\x80\x00\x01", 0, api.ErrForm, 0},
		{"\x80\x80\x00", 0, api.ErrForm, 0},
		{eight + "\x00", 0, api.ErrForm, 0},
		{eight + "\x80", 0, api.ErrForm, 0},
		{eight + "\x80\x00", 0, api.ErrForm, 0},
		{eight + "\x80\x01", 0, api.ErrForm, 0},
		{eight + "\x81\x01", 0, api.ErrForm, 0},
		{strings.Repeat("\xff", 9), 0, api.ErrForm, 0},
		{strings.Repeat("\xff", 9) + "\x01", 0, api.ErrForm, 0},
		{strings.Repeat("\xff", 40), 0, api.ErrForm, 0},
	}
	for _, c := range cases {
		x := leb.Over(c.s)
		if n := x.N(); n != c.n {
			t.Errorf("%x: N %d, want %d", c.s, n, c.n)
		}
		what := "N of " + hex(c.s)
		if c.err != api.OK {
			stays(t, what, x, c.err)
		} else if c.left > 0 {
			check(t, what, x, c.left, api.OK, api.ErrForm)
		} else {
			check(t, what, x, 0, api.OK, api.OK)
		}
	}
}

// P1.2: texts that end well, and those whose length, or whose bytes, do not.
func TestReadText(t *testing.T) {
	long := strings.Repeat("z", 300)
	cases := []struct {
		s, want string
		err     api.Errno
		left    int
	}{
		{"\x00", "", api.OK, 0},
		{"\x00x", "", api.OK, 1},
		{"\x01x", "x", api.OK, 0},
		{"\x02x\x00y", "x\x00", api.OK, 1},
		{"\x02\xff\xc3", "\xff\xc3", api.OK, 0},
		{"\xac\x02" + long, long, api.OK, 0},
		{"\xac\x02" + long + "!", long, api.OK, 1},
		{"", "", api.ErrShort, 0},
		{"\x01", "", api.ErrShort, 0},
		{"\x03xy", "", api.ErrShort, 0},
		{"\x80", "", api.ErrShort, 0},
		{"\xac\x02" + long[1:], "", api.ErrShort, 0},
		{strings.Repeat("\xff", 8) + "\x7fxy", "", api.ErrShort, 0}, // MaxCount bytes
		{"\x80\x00xy", "", api.ErrForm, 0},
		{"\x81\x00xy", "", api.ErrForm, 0},
		{strings.Repeat("\xff", 9) + "\x01xy", "", api.ErrForm, 0},
	}
	for _, c := range cases {
		x := leb.Over(c.s)
		if s := x.T(); s != c.want {
			t.Errorf("%x: T %q, want %q", c.s, s, c.want)
		}
		what := "T of " + hex(c.s)
		if c.err != api.OK {
			stays(t, what, x, c.err)
		} else if c.left > 0 {
			check(t, what, x, c.left, api.OK, api.ErrForm)
		} else {
			check(t, what, x, 0, api.OK, api.OK)
		}
	}
}

// P1.2: the first error stays, whatever could be read behind it.
func TestFirstError(t *testing.T) {
	x := leb.Over("\x05\x80\x00\x01\x01a")
	if n := x.N(); n != 5 {
		t.Errorf("N %d, want 5", n)
	}
	if n := x.N(); n != 0 {
		t.Errorf("N %d, want 0", n)
	}
	stays(t, "ErrForm, with bytes behind it", x, api.ErrForm)
	x = leb.Over("\x05\x09\x80\x00")
	if x.N() != 5 || x.T() != "" {
		t.Error("read a text that is short")
	}
	stays(t, "ErrShort, with bytes behind it", x, api.ErrShort)
}

// P1.2: a reader of nothing, and none at all.
func TestEmptyAndNil(t *testing.T) {
	check(t, "over nothing", leb.Over(""), 0, api.OK, api.OK)
	var x *leb.In
	stays(t, "nil", x, api.ErrNil)
}

// P1.2: a reader does not hang on another one of the same bytes.
func TestReadersApart(t *testing.T) {
	s := "\x01\x02"
	x, y := leb.Over(s), leb.Over(s)
	if x.N() != 1 || x.N() != 2 || x.N() != 0 {
		t.Error("the first reader")
	}
	check(t, "the second reader", y, 2, api.OK, api.ErrForm)
	if y.N() != 1 || y.N() != 2 {
		t.Error("the second reader")
	}
	check(t, "the second reader", y, 0, api.OK, api.OK)
}

// P1.3: numbers of every length, and their neighbours, come back.
func TestNumbersBack(t *testing.T) {
	for bit := range 63 {
		for _, n := range []int{1<<bit - 1, 1 << bit, 1<<bit | 1, math.MaxInt >> bit, math.MaxInt ^ 1<<bit} {
			s, e := leb.Lay(leb.N(n), leb.T("|"))
			x := leb.Over(s)
			if m := x.N(); m != n || e != api.OK || x.T() != "|" || x.End() != api.OK {
				t.Errorf("%d came back as %d", n, m)
			}
		}
	}
}

// P1.3: texts of every length about the edges come back.
func TestTextsBack(t *testing.T) {
	bytes := strings.Repeat("a\x00\xff\x80", api.MaxBlob/4)
	for _, n := range []int{0, 1, 2, 126, 127, 128, 129, 16383, 16384, 16385, api.MaxBlob - 4} {
		s, e := leb.Lay(leb.T(bytes[:n]), leb.N(9))
		x := leb.Over(s)
		if b := x.T(); b != bytes[:n] || e != api.OK || x.N() != 9 || x.End() != api.OK {
			t.Errorf("a text of %d bytes came back as one of %d", n, len(b))
		}
	}
}

// P1.3: lists of many fields come back, in their order.
func TestListsBack(t *testing.T) {
	seed := uint64(1)
	next := func(n int) int {
		seed = seed*6364136223846793005 + 1442695040888963407
		return int(seed>>33) % n
	}
	for range 500 {
		var l []leb.Field
		for range next(20) {
			if next(2) == 0 {
				l = append(l, leb.N(api.MaxCount>>next(63)-next(2)))
			} else {
				l = append(l, leb.T(strings.Repeat(string(rune(next(1000))), next(100))))
			}
		}
		s, e := leb.Lay(l...)
		if e != api.OK {
			t.Fatalf("Lay(%+v): %d", l, int(e))
		}
		x := leb.Over(s)
		for _, f := range l {
			if f.Text && x.T() != f.S || !f.Text && x.N() != f.N {
				t.Fatalf("%+v did not come back", f)
			}
		}
		check(t, "behind all fields", x, 0, api.OK, api.OK)
	}
}

// same tells whether bytes that are a number, and a text, are the only ones that are.
func same(t *testing.T, s string) {
	x := leb.Over(s)
	n := x.N()
	if back, e := leb.Lay(leb.N(n)); x.End() == api.OK && (back != s || e != api.OK) {
		t.Errorf("%d has two encodings: %x and %x", n, s, back)
	}
	x = leb.Over(s)
	b := x.T()
	if back, e := leb.Lay(leb.T(b)); x.End() == api.OK && (back != s || e != api.OK) {
		t.Errorf("%q has two encodings: %x and %x", b, s, back)
	}
}

// P1.3: of all bytes of up to two, and some longer ones, none says what others say.
func TestOnlyOne(t *testing.T) {
	for a := range 256 {
		same(t, string([]byte{byte(a)}))
		for b := range 256 {
			same(t, string([]byte{byte(a), byte(b)}))
			for _, n := range []int{1, 6, 7, 8} {
				same(t, strings.Repeat(string([]byte{byte(a)}), n)+string([]byte{byte(b)}))
			}
		}
	}
}

// P1.2, P1.3, R1: whatever the bytes are, reading ends, and what was read well is what was laid.
func FuzzRead(f *testing.F) {
	for _, s := range []string{"", "\xac\x02\x01a", "\x80\x00", strings.Repeat("\xff", 9), "\x05abc"} {
		f.Add(s, uint64(5))
	}
	f.Fuzz(func(t *testing.T, s string, kinds uint64) {
		x := leb.Over(s)
		var l []leb.Field
		for x.Left() > 0 && len(l) < 64 {
			if kinds>>len(l)&1 == 0 {
				l = append(l, leb.N(x.N()))
			} else {
				l = append(l, leb.T(x.T()))
			}
		}
		if x.Err() != api.OK {
			stays(t, "fuzzed", x, x.Err())
			return
		}
		read := s[:len(s)-x.Left()]
		if back, e := leb.Lay(l...); len(read) <= api.MaxBlob && (back != read || e != api.OK) {
			t.Errorf("%x was read, %x is laid", read, back)
		}
	})
}

// hex tells bytes in digits.
func hex(s string) string {
	const digits = "0123456789abcdef"
	var b []byte
	for i := range len(s) {
		b = append(b, digits[s[i]>>4], digits[s[i]&15])
	}
	return string(b)
}
