package frame_test

import (
	"slices"
	"strings"
	"testing"

	"lighterage/api"
	"lighterage/frame"
)

// The chapter's example.
func TestExample(t *testing.T) {
	if s, e := frame.Lay(); s != "" || e != api.OK {
		t.Errorf("Lay() = %x, %d", s, int(e))
	}
	if s, e := frame.Lay(""); s != "\x00\x00\x00\x00\x00" || e != api.OK {
		t.Errorf("Lay of an empty record = %x, %d", s, int(e))
	}
}

// P4.1: each record's length, bytes and sum, as they stand; one record behind the other.
func TestLay(t *testing.T) {
	cases := []struct {
		l    []string
		want string
	}{
		{nil, ""},
		{[]string{""}, "\x00\x00\x00\x00\x00"},
		{[]string{"", ""}, "\x00\x00\x00\x00\x00\x00\x00\x00\x00\x00"},
		{[]string{"a"}, "\x01a\x30\x43\xd0\xc1"},
		{[]string{"123456789"}, "\x09123456789\x83\x92\x06\xe3"},
		{[]string{"123456789", "a"}, "\x09123456789\x83\x92\x06\xe3\x01a\x30\x43\xd0\xc1"},
		{[]string{"a", "", "123456789"}, "\x01a\x30\x43\xd0\xc1\x00\x00\x00\x00\x00\x09123456789\x83\x92\x06\xe3"},
		{[]string{"\xff\xff\xff\xff"}, "\x04\xff\xff\xff\xff\xff\xff\xff\xff"},
		{[]string{strings.Repeat("\x00", 32)}, "\x20" + strings.Repeat("\x00", 32) + "\xaa\x36\x91\x8a"},
	}
	for _, c := range cases {
		if s, e := frame.Lay(c.l...); s != c.want || e != api.OK {
			t.Errorf("Lay(%q) = %x, %d, want %x", c.l, s, int(e), c.want)
		}
		if n := frame.Size(c.l...); n != len(c.want) {
			t.Errorf("Size(%q) = %d, want %d", c.l, n, len(c.want))
		}
	}
}

// P4.1: records of many lengths and kinds, and those whose length has one byte more than that of the one ahead.
func TestLayIsFramed(t *testing.T) {
	for _, l := range lists() {
		laidIs(t, "a list", l)
	}
	long := strings.Repeat("a\x00\xff\x80", api.MaxBlob/4)
	for _, n := range []int{0, 1, 2, 3, 4, 5, 126, 127, 128, 129, 255, 256, 16383, 16384, 16385} {
		laidIs(t, "one record", []string{long[:n]})
		laidIs(t, "a record between others", []string{"x", long[:n], "", "y"})
	}
}

// empties is n records without bytes, five bytes each.
func empties(n int) []string { return make([]string, n) }

// P4.1: as many bytes as the limit says, and one more, of one record, of two, and of very many; which of them is too much counts for nothing.
func TestLayBig(t *testing.T) {
	text := func(n int) string { return strings.Repeat("x", n) }
	const most = api.MaxBlob - 7 // bytes of the longest record that is within the limit
	cases := []struct {
		what string
		l    []string
		size int
	}{
		{"the longest record but one", []string{text(most - 1)}, api.MaxBlob - 1},
		{"the longest record", []string{text(most)}, api.MaxBlob},
		{"a record too long by one byte", []string{text(most + 1)}, api.MaxBlob + 1},
		{"a record too long by two bytes", []string{text(most + 2)}, api.MaxBlob + 1},
		{"a record within the limit, whose sum is not", []string{text(api.MaxBlob - 3)}, api.MaxBlob + 1},
		{"a record as long as the limit", []string{text(api.MaxBlob)}, api.MaxBlob + 1},
		{"a record longer than the limit", []string{text(api.MaxBlob + 1)}, api.MaxBlob + 1},
		{"a very long record", []string{text(50 * api.MaxBlob)}, api.MaxBlob + 1},
		{"very long records", []string{text(50 * api.MaxBlob), text(50 * api.MaxBlob)}, api.MaxBlob + 1},
		{"one too long ahead of others", []string{text(most + 1), "", "a"}, api.MaxBlob + 1},
		{"one too long behind others", []string{"", "a", text(most + 1)}, api.MaxBlob + 1},
		{"an empty one behind just enough", []string{text(most), ""}, api.MaxBlob + 1},
		{"an empty one ahead of just enough", []string{"", text(most)}, api.MaxBlob + 1},
		{"an empty one and the longest with it", []string{"", text(most - 5)}, api.MaxBlob},
		{"an empty one and a byte too much", []string{"", text(most - 4)}, api.MaxBlob + 1},
		{"two halves", []string{text(api.MaxBlob/2 - 7), text(api.MaxBlob/2 - 7)}, api.MaxBlob},
		{"two halves and a byte", []string{text(api.MaxBlob/2 - 7), text(api.MaxBlob/2 - 6)}, api.MaxBlob + 1},
		{"four bytes too few for one more", []string{text(most - 4), ""}, api.MaxBlob + 1},
		{"as many empty ones as there is room for", empties(api.MaxBlob / 5), api.MaxBlob - 1},
		{"one empty one too many", empties(api.MaxBlob/5 + 1), api.MaxBlob + 1},
		{"very many empty ones", empties(api.MaxBlob), api.MaxBlob + 1},
		{"empty ones and one of a byte", append(empties(api.MaxBlob/5-1), "a"), api.MaxBlob},
		{"empty ones and one of two bytes", append(empties(api.MaxBlob/5-1), "ab"), api.MaxBlob + 1},
	}
	for _, c := range cases {
		if n := frame.Size(c.l...); n != c.size {
			t.Errorf("%s: Size = %d, want %d", c.what, n, c.size)
		}
		laidIs(t, c.what, c.l)
	}
}

// P4.1, R3, R4: what is handed in stays, its spare room too, and is not kept.
func TestLayLeaves(t *testing.T) {
	room := []string{"a", "", "spare", "room"}
	was := slices.Clone(room)
	want := framed("a", "")
	s, e := frame.Lay(room[:2]...)
	if n := frame.Size(room[:2]...); s != want || e != api.OK || n != len(want) {
		t.Errorf("%x, %d, size %d", s, int(e), n)
	}
	if !slices.Equal(room, was) {
		t.Errorf("changed: %q", room)
	}
	room[0] = "b"
	frame.Lay(room...)
	if s != want {
		t.Errorf("kept: %x", s)
	}
	laidIs(t, "other records in the same list", room[:2])
}
