package batch_test

import (
	"slices"
	"strings"
	"testing"

	"lighterage/api"
	"lighterage/batch"
)

// R1: what is far too long ends, with the error that the document names.
func TestVeryLong(t *testing.T) {
	is := func(what string, l []api.Entry, limit int, want api.Errno) {
		t.Helper()
		if x, e := batch.Cut(l, limit); len(x) != 0 || e != want {
			t.Errorf("%s: Cut is %d, want %d", what, int(e), int(want))
		}
		if x, e := batch.Make(whole(), l, limit); len(x) != 0 || e != want {
			t.Errorf("%s: Make is %d, want %d", what, int(e), int(want))
		}
	}
	l := slices.Repeat([]api.Entry{out(1, 21)}, 300_000)
	is("very many", l, 4096, api.ErrBig)
	is("very many, and a limit that is none", l, 4097, api.ErrArg)
	if n := batch.Weigh(l); n != 6_300_000 {
		t.Errorf("very many weigh %d", n)
	}
	l[len(l)-1] = api.Entry{}
	is("very many, with one that may not be", l, 4096, api.ErrArg)
	is("very many that may not be", make([]api.Entry, 3_000_000), 1, api.ErrArg)
	is("very long data", []api.Entry{out(1, 5), updated(1, strings.Repeat("x", 50_000_000))}, 12, api.ErrArg)
	path := updated(1, "")
	path.U.Path = strings.Repeat("a/", 10_000_000)
	is("a very long path", []api.Entry{path}, 12, api.ErrArg)
	// Of what is handed in beside the entries all is passed on as it is, however long.
	m := whole()
	m.Not = make([]api.Ver, 1_000_000)
	x, e := batch.Make(m, of(5, 5), 5)
	if e != api.OK || len(x) != 2 || len(x[0].Not) != 0 || !slices.Equal(x[1].Not, m.Not) {
		t.Errorf("very many items: %d messages, %d", len(x), int(e))
	}
}

// entriesIn reads entries out of bytes: most are small ones that may be.
func entriesIn(s []byte) []api.Entry {
	var l []api.Entry
	for i, b := range s {
		by, n := i%64+1, int(b)
		switch {
		case n < 150:
			l = append(l, out(by, 5+n%17))
		case n < 190:
			l = append(l, updated(by, strings.Repeat("x", (n-150)*5)))
		case n < 220:
			l = append(l, noticed(by, n-190))
		case n < 240:
			l = append(l, outs(n-180, 5)...)
		case n < 250:
			l = append(l, greatest())
		case n < 254:
			l = append(l, slices.Repeat([]api.Entry{out(by, 5)}, 256)...)
		case i%7 == 6:
			l = append(l, wrongs()[i%len(wrongs())])
		}
	}
	return l
}

// P19.1 to P19.4, R1: whatever the entries and the limit are.
func FuzzBatches(f *testing.F) {
	f.Add(12, []byte{0, 0, 0, 0, 0})
	f.Add(1, []byte{})
	f.Add(0, []byte{1})
	f.Add(4097, []byte{})
	f.Add(1280, []byte{250, 251, 252, 16, 240, 241})
	f.Add(4096, slices.Repeat([]byte{250}, 16))
	f.Add(4096, slices.Repeat([]byte{251}, 17))
	f.Add(300, []byte{150, 160, 189, 190, 219, 0, 3, 7, 16, 240, 220, 239})
	f.Add(21, []byte{1, 2, 3, 4, 5, 6, 255, 7})
	f.Add(most, []byte{240})
	f.Fuzz(func(t *testing.T, limit int, s []byte) {
		l := entriesIn(s[:min(len(s), 200)])
		allIs(t, l, limit)
		// Most numbers are no limit at all.
		allIs(t, l, limit&4095+1)
		allIs(t, l, limit&63+1)
	})
}
