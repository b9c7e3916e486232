package leb_test

import (
	"math"
	"slices"
	"strings"
	"testing"

	"lighterage/api"
	"lighterage/leb"
)

// zeros is n fields of one byte each.
func zeros(n int) []leb.Field { return make([]leb.Field, n) }

// P1.1: N and T tell fields in which nothing else is set.
func TestFields(t *testing.T) {
	for _, n := range []int{0, 1, 300, api.MaxCount, -1, math.MinInt} {
		if f := leb.N(n); f != (leb.Field{N: n}) {
			t.Errorf("N(%d) = %+v", n, f)
		}
	}
	for _, s := range []string{"", "a", "\x00\xff", strings.Repeat("x", api.MaxBlob+1)} {
		if f := leb.T(s); f != (leb.Field{S: s, Text: true}) {
			t.Errorf("T of %d bytes = %+v", len(s), f)
		}
	}
}

// P1.1: each field's bytes, and their order.
func TestLay(t *testing.T) {
	long := strings.Repeat("y", 128)
	cases := []struct {
		l    []leb.Field
		want string
	}{
		{nil, ""},
		{[]leb.Field{leb.N(0)}, "\x00"},
		{[]leb.Field{leb.N(1)}, "\x01"},
		{[]leb.Field{leb.N(127)}, "\x7f"},
		{[]leb.Field{leb.N(128)}, "\x80\x01"},
		{[]leb.Field{leb.N(255)}, "\xff\x01"},
		{[]leb.Field{leb.N(256)}, "\x80\x02"},
		{[]leb.Field{leb.N(16383)}, "\xff\x7f"},
		{[]leb.Field{leb.N(16384)}, "\x80\x80\x01"},
		{[]leb.Field{leb.N(1<<56 - 1)}, "\xff\xff\xff\xff\xff\xff\xff\x7f"},
		{[]leb.Field{leb.N(1 << 56)}, "\x80\x80\x80\x80\x80\x80\x80\x80\x01"},
		{[]leb.Field{leb.N(api.MaxCount)}, "\xff\xff\xff\xff\xff\xff\xff\xff\x7f"},
		{[]leb.Field{leb.T("")}, "\x00"},
		{[]leb.Field{leb.T("\x00")}, "\x01\x00"},
		{[]leb.Field{leb.T("\xff\xfe")}, "\x02\xff\xfe"},
		{[]leb.Field{leb.T("ä")}, "\x02\xc3\xa4"},
		{[]leb.Field{leb.T(long[1:])}, "\x7f" + long[1:]},
		{[]leb.Field{leb.T(long)}, "\x80\x01" + long},
		{[]leb.Field{leb.N(300), leb.T("a")}, "\xac\x02\x01a"},
		{[]leb.Field{leb.T("a"), leb.N(300)}, "\x01a\xac\x02"},
		{[]leb.Field{leb.T(""), leb.N(0), leb.T("b"), leb.T("c")}, "\x00\x00\x01b\x01c"},
		// Of a text its number does not count, nor of a number its text.
		{[]leb.Field{{N: -1, S: "q", Text: true}}, "\x01q"},
		{[]leb.Field{{N: 5, S: "q"}}, "\x05"},
	}
	for _, c := range cases {
		if s, e := leb.Lay(c.l...); s != c.want || e != api.OK {
			t.Errorf("Lay(%+v) = %x, %d, want %x", c.l, s, int(e), c.want)
		}
	}
}

// P1.1: a negative number, ahead of too many bytes, wherever either stands.
func TestLayRange(t *testing.T) {
	big := leb.T(strings.Repeat("x", api.MaxBlob))
	cases := [][]leb.Field{
		{leb.N(-1)},
		{leb.N(math.MinInt)},
		{leb.N(1), leb.T("a"), leb.N(-1)},
		{leb.N(-128), leb.N(1)},
		{{N: -1, S: "q"}},
		{big, leb.N(-1)},
		{leb.N(-1), big},
		{big, big, leb.N(-1), big},
		append(zeros(api.MaxBlob+1), leb.N(-1)),
	}
	for i, l := range cases {
		if s, e := leb.Lay(l...); s != "" || e != api.ErrRange {
			t.Errorf("case %d: %d bytes, %d, want ErrRange", i, len(s), int(e))
		}
	}
}

// P1.1: as many bytes as the limit says, and one more.
func TestLayBig(t *testing.T) {
	text := func(n int) leb.Field { return leb.T(strings.Repeat("x", n)) }
	cases := []struct {
		l    []leb.Field
		want api.Errno
	}{
		{zeros(api.MaxBlob), api.OK},
		{zeros(api.MaxBlob + 1), api.ErrBig},
		{append(zeros(api.MaxBlob-1), leb.N(127)), api.OK},
		{append(zeros(api.MaxBlob-1), leb.N(128)), api.ErrBig},
		{append(zeros(api.MaxBlob-9), leb.N(api.MaxCount)), api.OK},
		{append(zeros(api.MaxBlob-8), leb.N(api.MaxCount)), api.ErrBig},
		{append(zeros(api.MaxBlob-1), leb.T("")), api.OK},
		{append(zeros(api.MaxBlob), leb.T("")), api.ErrBig},
		{append(zeros(api.MaxBlob-1), leb.T("a")), api.ErrBig},
		{[]leb.Field{text(api.MaxBlob - 3)}, api.OK},
		{[]leb.Field{text(api.MaxBlob - 2)}, api.ErrBig},
		{[]leb.Field{text(api.MaxBlob)}, api.ErrBig},
		{[]leb.Field{text(4 * api.MaxBlob)}, api.ErrBig},
		{[]leb.Field{text(api.MaxBlob - 3), leb.N(0)}, api.ErrBig},
		{[]leb.Field{leb.N(0), text(api.MaxBlob - 4)}, api.OK},
		{[]leb.Field{leb.N(0), text(api.MaxBlob - 3)}, api.ErrBig},
		{[]leb.Field{text(api.MaxBlob / 2), text(api.MaxBlob/2 - 6)}, api.OK},
		{[]leb.Field{text(api.MaxBlob / 2), text(api.MaxBlob/2 - 5)}, api.ErrBig},
		{[]leb.Field{text(api.MaxBlob), leb.N(0), leb.T("")}, api.ErrBig},
	}
	for i, c := range cases {
		want := 0
		if c.want == api.OK {
			want = api.MaxBlob
		}
		if s, e := leb.Lay(c.l...); len(s) != want || e != c.want {
			t.Errorf("case %d: %d bytes, %d, want %d bytes, %d", i, len(s), int(e), want, int(c.want))
		}
	}
}

// P1.1, R3, R4: what is handed in stays, its spare room too, and is answered anew.
func TestLayLeaves(t *testing.T) {
	room := []leb.Field{leb.N(300), leb.T("ab"), leb.N(7), leb.T("spare")}
	was := slices.Clone(room)
	for range 2 {
		if s, e := leb.Lay(room[:2]...); s != "\xac\x02\x02ab" || e != api.OK {
			t.Errorf("%x, %d", s, int(e))
		}
		if !slices.Equal(room, was) {
			t.Fatalf("changed: %+v", room)
		}
	}
	s, _ := leb.Lay(room[:2]...)
	room[1] = leb.T("zz")
	if s != "\xac\x02\x02ab" {
		t.Errorf("kept: %x", s)
	}
}
