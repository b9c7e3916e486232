package msg_test

import (
	"slices"
	"strings"
	"testing"

	"lighterage/api"
	"lighterage/msg"
)

// byteOf is a text of one byte.
func byteOf(b int) string {
	return string([]byte{byte(b)})
}

// altered are all texts that come of a text by one byte less, another one, or one more at any place, and all that it begins or ends with.
func altered(s string) []string {
	var l []string
	for i := range len(s) + 1 {
		l = append(l, s[:i], s[i:])
		for b := range 256 {
			l = append(l, s[:i]+byteOf(b)+s[i:])
			if i < len(s) {
				l = append(l, s[:i]+byteOf(b)+s[i+1:])
			}
		}
		if i < len(s) {
			l = append(l, s[:i]+s[i+1:])
		}
	}
	return l
}

// P18.2, P18.4: bodies that are nearly those of a message.
func TestAltered(t *testing.T) {
	read := 0
	for _, m := range all() {
		for i, body := range altered(told(m)) {
			if getIs(t, record(body)) == api.OK {
				read++
			}
			// A second byte of short ones only, and of some, as there are very many.
			if len(told(m)) > 7 || i%97 != 0 {
				continue
			}
			for _, two := range altered(body) {
				getIs(t, record(two))
			}
		}
	}
	if read < 1000 {
		t.Errorf("%d of what was altered is read", read)
	}
}

// P18.2: records that are nearly those of a message: the error is frame's.
func TestAlteredRecords(t *testing.T) {
	seen := map[api.Errno]int{}
	for _, m := range all() {
		s := record(told(m))
		for _, x := range altered(s) {
			seen[getIs(t, x)]++
		}
		isRefused(t, api.ErrForm, s+"x", s+"\x00", s+s, s+record(""), s+strings.Repeat("\xff", 100))
		isRefused(t, api.ErrShort, "", s[:1], s[:len(s)-1], s[:len(s)-4])
		isRefused(t, api.ErrSum, s[:len(s)-1]+byteOf(int(s[len(s)-1])^1), s[:len(s)-4]+"\x00\x00\x00\x00", s[:1]+byteOf(int(s[1])^1)+s[2:])
		// Of one that is spoilt frame's error comes ahead of what is behind it.
		isRefused(t, api.ErrSum, s[:len(s)-4]+"\x00\x00\x00\x00"+"x")
	}
	isRefused(t, api.ErrForm, "\x80\x00", "\x87\x00"+record(told(ack()))[1:], strings.Repeat("\xff", 9), strings.Repeat("\xff", 8)+"\xff\x01")
	isRefused(t, api.ErrShort, "\x80", "\x07", "\x00", "\x00\x00\x00\x00", strings.Repeat("\xff", 8)+"\x7f")
	isRefused(t, api.ErrForm, "\x00\x00\x00\x00\x00", record(""), record("")+record(told(ack())))
	for _, e := range []api.Errno{api.OK, api.ErrShort, api.ErrForm, api.ErrSum} {
		if seen[e] == 0 {
			t.Errorf("nothing that was altered is %d", int(e))
		}
	}
}

// P18.2: bodies of acknowledgements and refusals that nobody lays.
func TestWrongShort(t *testing.T) {
	greatest := strings.Repeat("\xff", 8)
	isNoBody(t,
		"",
		"\x00", "\x01", "\x02", "\x03", "\x04", "\x05",
		"\x00\x01\x01\x01", // no kind
		"\x05\x01\x01\x01", // another kind
		"\x05\x01\x01\x01\x01",
		"\x83\x00\x01\x01\x01\x02\x01\x01",         // a kind of more bytes than it needs
		"\x83\x02\x01\x01\x01\x02\x01\x01",         // a kind whose low bits are 3
		"\x03\x01\x01\x01\x02\x01",                 // a name that ends
		"\x03\x01\x01\x01",                         // no name
		"\x03\x01\x01\x01\x02\x01\x01\x00",         // a byte is left
		"\x03\x01\x01\x01\x02\x01\x01\x01",         // likewise
		"\x03\x00\x01\x01\x02\x01\x01",             // replica 0
		"\x03\x41\x01\x01\x02\x01\x01",             // replica 65
		"\x03\x01\x00\x01\x02\x01\x01",             // start 0
		"\x03\x01\x01\x00\x02\x01\x01",             // number 0
		"\x03\x01\x01\x01\x00\x01\x01",             // likewise of the other name
		"\x03\x01\x01\x01\x41\x01\x01",             // likewise
		"\x03\x01\x01\x01\x02\x00\x01",             // likewise
		"\x03\x01\x01\x01\x02\x01\x00",             // likewise
		"\x03\x01\x81\x00\x01\x02\x01\x01",         // a number of more bytes than it needs
		"\x03\x01\x01\x01\x02\x01\x81\x00",         // likewise
		"\x03\x01"+greatest+"\xff\x01\x01\x02\x01", // a number beyond all
		"\x04\x01\x02\x03",                         // no code
		"\x04\x01\x02\x03\x00",                     // code 0
		"\x04\x01\x02\x03\x65",                     // code 101
		"\x04\x01\x02\x03\x89\x00",                 // a code of more bytes than it needs
		"\x04\x01\x02\x03\x89\x02",                 // a code whose low bits may be
		"\x04\x01\x02\x03\x09\x00",                 // a byte is left
		"\x04\x01\x02\x03\x09\x01\x02\x03",         // a name is left
		"\x04\x01\x02\x03"+greatest+"\x7f",
		"\x04\x01\x02\x03"+greatest+"\xff\x01",
	)
}

// P18.2: bodies of requests that nobody lays.
func TestWrongRequests(t *testing.T) {
	greatest := strings.Repeat("\xff", 8)
	ids := "\x01\x01\x02\x03"
	isTold(t, api.Msg{Kind: api.MRequest, Sid: sid(1, 2, 3), Held: []api.Pair{pair(1, 1, 1, 1)}}, ids+"\x00\x01\x00\x04\x01\x00\x01\x00\x01\x01\x01\x01\x01")
	for _, flag := range []string{"", "\x02", "\x80\x00", "\x81\x00", "\x81\x01", "\x7f"} {
		isNoBody(t, ids+flag+"\x01\x00\x04\x01\x00\x01\x00\x00")
	}
	for _, f := range []string{"", "\x00", "\x02\x00\x00", "\x01\x01", "\x81\x00\x00", "\x02\x80\x00", "\x05\x01\x03\x00\x02\x01", "\x06\x01\x04\x01A\x02\x03", text("\x41" + strings.Repeat("\x03\x00\x00\x00", 65))} {
		isNoBody(t, ids+"\x00"+f+"\x04\x01\x00\x01\x00\x00")
	}
	for _, k := range []string{"", "\x00", "\x01\x00", "\x05\x01\x00\x01\x00\x00", "\x03\x01\x00\x01", "\x84\x00\x01\x00\x01\x00", "\x05\x01\x00\x02\x00\x00", "\x09\x01\x00\x06\x01\x04\x00\x01\x01\x00"} {
		isNoBody(t, ids+"\x00\x01\x00"+k+"\x00")
	}
	for _, held := range []string{
		"",
		"\x80\x00",
		"\x00\x00",
		"\x00\x01\x01\x01\x01",                      // more than it says
		"\x01",                                      // fewer than it says
		"\x01\x01\x01\x01",                          // a pair that ends
		"\x01\x01\x01\x01\x01\x01",                  // a byte is left
		"\x02\x01\x01\x01\x01",                      // fewer than it says
		"\x01\x04\x01\x01\x01\x01",                  // a text
		"\x81\x00\x01\x01\x01\x01",                  // a count of more bytes than it needs
		"\x01\x81\x00\x01\x01\x01",                  // a number of more bytes than it needs
		"\x01\x00\x01\x01\x01",                      // replica 0
		"\x01\x01\x00\x01\x01",                      // number 0
		"\x01\x01\x01\x41\x01",                      // replica 65
		"\x01\x01\x01\x01\x00",                      // number 0
		"\x02\x02\x01\x01\x01\x01\x01\x01",          // a pair that ends
		"\x02\x02\x01\x01\x01\x01\x01\x01\x01",      // another order
		"\x02\x01\x02\x01\x01\x01\x01\x01\x01",      // another order
		"\x02\x01\x01\x01\x01\x01\x01\x01\x01",      // the same once more
		"\x02\x01\x01\x01\x01\x01\x01\x02\x02",      // the same item once more
		"\x81\x02" + strings.Repeat("\x01", 4*257),  // 257 of the same
		greatest + "\x7f\x01\x01\x01\x01",           // as many as there may be of anything
		greatest + "\xff\x01\x01\x01\x01\x01",       // more
		greatest + "\x7f",                           // likewise, without any
		"\x01" + greatest + "\xff\x01\x01\x01\x01",  // a replica beyond all numbers
		"\x01\x01\x01\x01" + greatest + "\xff\x01",  // a number beyond all
		"\x82\x80\x80\x80\x10\x01\x01\x01\x01",      // 2^32 and some
		"\x80\x80\x04" + strings.Repeat("\x01", 40), // 65536
	} {
		isNoBody(t, ids+"\x00\x01\x00\x04\x01\x00\x01\x00"+held)
	}
}

// P18.2: bodies of batches that nobody lays.
func TestWrongBatches(t *testing.T) {
	greatest := strings.Repeat("\xff", 8)
	ids, none := "\x02\x01\x02\x03\x04\x05\x06", "\x01\x00\x01\x00\x01\x00"
	m := api.Msg{Kind: api.MBatch, Sid: sid(1, 2, 3), Rid: sid(4, 5, 6)}
	isTold(t, m, ids+"\x00\x00\x00"+none)
	for _, ends := range []string{"\x00\x02\x00", "\x00\x80\x00\x00", "\x00\x81\x01\x00", "\x80\x00\x00\x00", "\x81\x80\x40\x00\x00", greatest + "\x7f\x00\x00", greatest + "\xff\x01\x00\x00", "\x00\x00", ""} {
		isNoBody(t, ids+ends+none)
	}
	for _, name := range []string{"\x00\x05\x06", "\x41\x05\x06", "\x04\x00\x06", "\x04\x05\x00", "\x04\x05", ""} {
		isNoBody(t, ids[:4]+name+"\x00\x00\x00"+none)
	}
	for _, e := range []string{
		"\x01",                                            // fewer than it says
		"\x01\x00",                                        // no kind
		"\x01\x04",                                        // another kind
		"\x01\x04\x01\x01\x01\x01",                        // likewise, with a pair
		"\x01\x03\x01\x01\x01",                            // a pair that ends
		"\x01\x83\x00\x01\x01\x01\x01",                    // a kind of more bytes than it needs
		"\x01\x03\x04\x01\x01\x01\x01",                    // a pair as a text
		"\x00\x03\x01\x01\x01\x01",                        // more than it says
		"\x02\x03\x01\x01\x01\x01",                        // fewer than it says
		"\x81\x00\x03\x01\x01\x01\x01",                    // a count of more bytes than it needs
		"\x01\x03\x00\x01\x01\x01",                        // replica 0
		"\x01\x03\x01\x00\x01\x01",                        // number 0
		"\x01\x03\x01\x01\x41\x01",                        // replica 65
		"\x01\x03\x01\x01\x01\x00",                        // number 0
		"\x01\x01\x00",                                    // an update of no bytes
		"\x01\x02\x00",                                    // a meta of no bytes
		"\x01\x01\x09\x01\x02\x03\x04\x05\x01a\x02\x00",   // an update that is a meta
		"\x01\x02\x0b\x01\x02\x03\x04\x05\x01a\x02xy\x00", // a meta that is an update
		"\x01\x01\x0c\x01\x02\x03\x04\x05\x01a\x02xy\x00\x00",
		"\x01\x01\x0b\x01\x02\x03\x04\x05\x01a\x02xy\x01", // one that is Dead, with data
		"\x01\x01\x0b\x01\x02\x03\x04\x05\x01A\x02xy\x00", // another path
		"\x01\x01\x8b\x00\x01\x02\x03\x04\x05\x01a\x02xy\x00",
		"\x01\x02\x0a\x01\x02\x03\x04\x05\x01a\xc9\x01\x00", // size 201
		"\x01\x01\x02\x03\x04\x05\x01a\x02xy\x00",           // not as a text
		greatest + "\x7f\x03\x01\x01\x01\x01",
		greatest + "\xff\x01\x03\x01\x01\x01\x01",
		"\x81\x02" + strings.Repeat("\x03\x01\x01\x01\x01", 257),
		"\x80\x80\x04" + strings.Repeat("\x03\x01\x01\x01\x01", 300),
		"\x81\x80\x80\x80\x10\x03\x01\x01\x01\x01",
	} {
		isNoBody(t, ids+"\x00\x00"+e+none)
	}
	vectors := []string{"", "\x00", "\x02\x00\x00", "\x01\x01", "\x81\x00\x00", "\x02\x80\x00", "\x04\x01\x02\x00\x01", "\x04\x01\x02\x41\x01", "\x04\x01\x02\x01\x00", "\x07\x02\x02\x02\x01\x02\x01\x01", "\x07\x02\x02\x01\x01\x02\x01\x01"}
	for _, v := range vectors {
		isNoBody(t, ids+"\x00\x00\x00"+v+"\x01\x00\x01\x00", ids+"\x00\x00\x00\x01\x00"+v+"\x01\x00", ids+"\x00\x00\x00\x01\x00\x01\x00"+v)
	}
	isNoBody(t, ids+"\x00\x00\x00\x07\x02\x02\x01\x01\x02\x01\x02\x01\x00\x01\x00", ids+"\x00\x00\x00"+none+"\x00", ids+"\x00\x00\x00"+none+none)
	m.Not = []api.Ver{ver(1, 1), ver(1, 2)}
	isTold(t, m, ids+"\x00\x00\x00\x01\x00\x01\x00\x07\x02\x02\x01\x01\x02\x01\x02")
}

// texts are all texts of so many of some bytes.
func texts(some string, many int) []string {
	l := []string{""}
	for range many {
		var longer []string
		for _, s := range l {
			for i := range len(some) {
				longer = append(longer, s+some[i:i+1])
			}
		}
		l = longer
	}
	return l
}

// P18.2, P18.4: all short bodies of some bytes, and what stands about such bytes.
func TestAllShort(t *testing.T) {
	read := 0
	is := func(body string) {
		if getIs(t, record(body)) == api.OK {
			read++
		}
	}
	for many := range 7 {
		for _, s := range texts("\x00\x01\x02\x03\x04", many) {
			is(s)
			is("\x03\x01" + s)
		}
	}
	for many := range 6 {
		for _, s := range texts("\x00\x01\x02\x03\x80", many) {
			is("\x01\x01\x01\x01" + s + "\x01\x00\x04\x01\x00\x01\x00\x00")
			is("\x01\x01\x01\x01\x00\x01\x00\x04\x01\x00\x01\x00" + s)
			is("\x02\x01\x01\x01\x01\x01\x01" + s + "\x01\x00\x01\x00\x01\x00")
			is("\x02\x01\x01\x01\x01\x01\x01\x00\x00\x01\x03" + s + "\x01\x00\x01\x00\x01\x00")
			is("\x02\x01\x01\x01\x01\x01\x01\x00\x00\x00\x01\x00" + s)
		}
	}
	if read < 1000 {
		t.Errorf("%d of all short ones are read", read)
	}
}

// P18.2: a count that is far too great is none, however few bytes there are.
func TestGreatCounts(t *testing.T) {
	for _, n := range edges() {
		for _, many := range []int{0, 1, 2, 255, 256, 257, 300} {
			isAsModel := func(m api.Msg, part string) {
				body := told(m)
				at := strings.Index(body, part)
				getIs(t, record(body[:at]+num(n)+strings.Repeat(part[1:], many)+body[at+len(part):]))
			}
			isAsModel(api.Msg{Kind: api.MBatch, Sid: sid(9, 9, 9), Rid: sid(9, 9, 9), Entries: []api.Entry{outed(pair(1, 1, 2, 2))}}, "\x01\x03\x01\x01\x02\x02")
			isAsModel(api.Msg{Kind: api.MBatch, Sid: sid(9, 9, 9), Rid: sid(9, 9, 9), Entries: []api.Entry{updated("xy")}}, "\x01\x01\x0b\x01\x02\x03\x04\x05\x01a\x02xy\x00")
			isAsModel(api.Msg{Kind: api.MRequest, Sid: sid(9, 9, 9), Held: []api.Pair{pair(1, 1, 2, 2)}}, "\x01\x01\x01\x02\x02")
		}
	}
}

// P18.2, P18.4: as many pairs, or entries, as it says, about 256 of them.
func TestCounts(t *testing.T) {
	for many := 250; many < 262; many++ {
		held, entries := someHeld(many), slices.Repeat([]api.Entry{noticed(2)}, many)
		want := api.OK
		if many > 256 {
			want = api.ErrForm
		}
		for said := 250; said < 262; said++ {
			is := want
			if said != many {
				is = api.ErrForm
			}
			body := told(api.Msg{Kind: api.MRequest, Sid: sid(9, 9, 9), Held: held})
			empty := told(api.Msg{Kind: api.MRequest, Sid: sid(9, 9, 9)})
			rest := body[len(empty)+1:]
			if _, e := msg.Get(record(empty[:len(empty)-1] + num(said) + rest)); e != is {
				t.Errorf("%d pairs, of which %d are said: %d, want %d", many, said, int(e), int(is))
			}
			head, tail := "\x02\x09\x09\x09\x09\x09\x09\x00\x00", "\x01\x00\x01\x00\x01\x00"
			all := ""
			for _, x := range entries {
				all += toldEntry(x)
			}
			if _, e := msg.Get(record(head + num(said) + all + tail)); e != is {
				t.Errorf("%d entries, of which %d are said: %d, want %d", many, said, int(e), int(is))
			}
		}
	}
}
