package pack_test

import (
	"strings"
	"testing"

	"lighterage/api"
)

// byteOf is a text of one byte.
func byteOf(b int) string {
	return string([]byte{byte(b)})
}

// altered are all texts that come of a text by one byte less, another one, or one more at any place, and all that it begins or ends with.
func altered(s string) []string {
	var l []string
	for i := range len(s) + 1 {
		l = append(l, s[:i], s[i:])
		for b := range 256 {
			l = append(l, s[:i]+byteOf(b)+s[i:])
			if i < len(s) {
				l = append(l, s[:i]+byteOf(b)+s[i+1:])
			}
		}
		if i < len(s) {
			l = append(l, s[:i]+s[i+1:])
		}
	}
	return l
}

// allAltered holds Get against the model, of all that comes of the bytes of some by a byte, and of the shortest ones by two.
func allAltered[T any](t *testing.T, k kind[T], some ...T) {
	t.Helper()
	read := 0
	for _, x := range some {
		s, e := k.modelPut(x)
		if e != api.OK {
			t.Fatalf("%s %v may not be", k.name, x)
		}
		for i, one := range altered(s) {
			if k.getIs(t, one) == api.OK {
				read++
			}
			// A second byte of some only, as there are very many.
			if len(s) > 5 || i%17 != 0 {
				continue
			}
			for _, two := range altered(one) {
				k.getIs(t, two)
			}
		}
	}
	if read < len(some) {
		t.Errorf("%s: %d of what was altered is read", k.name, read)
	}
}

// P17.2, P17.3: bytes that are nearly those of something.
func TestAltered(t *testing.T) {
	x, s := ver(1, 2), stamp(3, 400, 5)
	allAltered(t, updates(), api.Update{Item: x, Stamp: s, Path: "a/b", Data: "xy"}, api.Update{Item: x, Stamp: s, Path: "a", Dead: true})
	allAltered(t, metas(), api.Meta{Item: x, Stamp: s, Path: "a/b", Size: 200}, api.Meta{Item: x, Stamp: s, Path: "a", Dead: true})
	allAltered(t, vectors(), api.Vec{}, vector(5), vector(1, 0, 300, 2), at(64, most))
	allAltered(t, items(), nil, []api.Ver{ver(1, 1)}, []api.Ver{ver(1, 1), ver(1, 300), ver(2, 1)})
	allAltered(t, filters(), nil, []api.Clause{clause("", 0, 200)}, []api.Clause{clause("a/b", 3, 4), clause("a", 128, 130)})
	allAltered(t, knowledge(), api.Know{}, api.Know{Frags: []api.Frag{{}}}, small())
}

// P17.2: updates that nobody lays.
func TestWrongUpdates(t *testing.T) {
	nine := strings.Repeat("\xff", 8)
	updates().isForm(t,
		"",
		"\x01\x02\x03\x04\x05\x01a\x02xy",     // no flag
		"\x01\x02\x03\x04\x05\x01a\x02xy\x02", // another flag
		"\x01\x02\x03\x04\x05\x01a\x02xy\x80\x00",                           // a flag of two bytes
		"\x01\x02\x03\x04\x05\x01a\x02xy\x81\x01",                           // a flag whose low bits are 1
		"\x01\x02\x03\x04\x05\x01a\x02xy\x00\x00",                           // a byte is left
		"\x01\x02\x03\x04\x05\x01a\x02xy\x01",                               // Dead, with data
		"\x01\x82\x00\x03\x04\x05\x01a\x02xy\x00",                           // a number of more bytes than it needs
		"\x01\x02\x03\x04\x05\x81\x00a\x02xy\x00",                           // a length likewise
		"\x01\x02\x03\x04\x05\x01a\x03xy\x00",                               // data that ends
		"\x01\x02\x03\x04\x05\x00\x02xy\x00",                                // no path
		"\x01\x02\x03\x04\x05\x01A\x02xy\x00",                               // another path
		"\x01\x02\x03\x04\x00\x01a\x02xy\x00",                               // time 0
		"\x00\x02\x03\x04\x05\x01a\x02xy\x00",                               // no replica
		"\x41\x02\x03\x04\x05\x01a\x02xy\x00",                               // replica 65
		"\x01\x00\x03\x04\x05\x01a\x02xy\x00",                               // number 0
		"\x01\x02\x41\x04\x05\x01a\x02xy\x00",                               // its version, likewise
		"\x01\x02\x03\x00\x05\x01a\x02xy\x00",                               // its version, likewise
		"\x01\x02\x03\x04"+nine+"\xff\x01\x01a\x02xy\x00",                   // a time beyond all numbers
		"\x01\x02\x03\x04\x05"+nine+"\x7fa\x02xy\x00",                       // a path of very many bytes
		"\x01\x02\x03\x04\x05\x01a\xc9\x01"+strings.Repeat("z", 201)+"\x00", // data that is too long
		"\x00\x00\x00\x00\x00\x00\x00\x00",
	)
	metas().isForm(t,
		"",
		"\x01\x02\x03\x04\x05\x01a\x02",
		"\x01\x02\x03\x04\x05\x01a\x02\x02",
		"\x01\x02\x03\x04\x05\x01a\x02\x80\x00",
		"\x01\x02\x03\x04\x05\x01a\x02\x00\x00",
		"\x01\x02\x03\x04\x05\x01a\x02\x01", // Dead, with a size
		"\x01\x02\x03\x04\x05\x01a\x82\x00\x00",
		"\x01\x02\x03\x04\x05\x01a\xc9\x01\x00", // size 201
		"\x01\x02\x03\x04\x05\x01a"+nine+"\x7f\x00",
		"\x01\x02\x03\x04\x05\x01a"+nine+"\xff\x01\x00", // a size that is -1 in 64 bits
		"\x01\x02\x03\x04\x05\x01a\x02xy\x00",
	)
}

// P17.2: vectors and items that nobody lays.
func TestWrongVersions(t *testing.T) {
	nine := strings.Repeat("\xff", 8)
	both := []string{
		"",
		"\x80\x00",                     // a count of more bytes than it needs
		"\x00\x00",                     // bytes are left
		"\x01",                         // fewer than it says
		"\x01\x00",                     // an element without bytes
		"\x01\x01\x01",                 // an element that ends
		"\x01\x03\x01\x01\x01",         // an element with bytes left
		"\x01\x03\x01\x81\x00",         // a number of more bytes than it needs
		"\x01\x03\x81\x00\x01",         // another one
		"\x01\x82\x00\x01\x01",         // a length likewise
		"\x01\x02\x00\x01",             // replica 0
		"\x01\x02\x41\x01",             // replica 65
		"\x01\x02\x01\x00",             // number 0
		"\x02\x02\x01\x01",             // fewer than it says
		"\x01\x02\x01\x01\x02\x02\x01", // more than it says
		"\x00\x02\x01\x01",             // likewise
		"\x02\x02\x02\x01\x02\x01\x01", // another order
		"\x02\x02\x01\x02\x02\x01\x01", // another order
		"\x02\x02\x01\x01\x02\x01\x01", // the same once more
		"\x02\x04\x01\x01\x02\x01",     // two in one
		"\x02\x02\x01\x01\x02\x00\x01",
		"\x02\x02\x00\x01\x02\x01\x01",
		"\x01\x0a\x01" + nine + "\xff\x01", // a number beyond all
		"\x01\x0b\x01" + nine + "\xff\x01",
		nine + "\x7f",                 // as many as there may be of anything
		nine + "\x7f\x02\x01\x01",     // likewise
		nine + "\xff\x01",             // more
		nine + "\xff\x01\x02\x01\x01", // likewise
		"\x01" + nine + "\x7f\x01\x01",
		"\x03\x02\x01\x01\x02\x02\x01\x02\x02\x01",
	}
	vectors().isForm(t, both...)
	items().isForm(t, both...)
	// A vector has one number of each replica.
	vectors().isForm(t, "\x02\x02\x01\x01\x02\x01\x02", "\x03\x02\x01\x01\x02\x01\x02\x02\x02\x01")
	items().isTold(t, []api.Ver{ver(1, 1), ver(1, 2)}, "\x02\x02\x01\x01\x02\x01\x02")
}

// P17.2: filters that nobody lays.
func TestWrongFilters(t *testing.T) {
	nine := strings.Repeat("\xff", 8)
	filters().isForm(t,
		"",
		"\x80\x00",
		"\x00\x00",
		"\x01",
		"\x01\x00",
		"\x01\x02\x00\x00",                     // a clause that ends
		"\x01\x04\x00\x00\x01\x00",             // a clause with bytes left
		"\x01\x04\x00\x80\x00\x01",             // a number of more bytes than it needs
		"\x01\x04\x80\x00\x00\x01",             // a length likewise
		"\x01\x03\x00\x02\x01",                 // a range of nothing
		"\x01\x04\x00\x00\xc9\x01",             // a size beyond all
		"\x01\x04\x01A\x00\x01",                // another prefix
		"\x01\x04\x01/\x00\x01",                // another prefix
		"\x02\x03\x00\x00\x01",                 // fewer than it says
		"\x01\x03\x00\x00\x01\x03\x00\x00\x01", // more than it says
		"\x01\x0b\x00"+nine+"\x7f\x01",
		"\x01\x0c\x00\x00"+nine+"\xff\x01",
		nine+"\x7f\x03\x00\x00\x01",
		toldFilter(make([]api.Clause, 65)),
		toldFilter(append(make([]api.Clause, 63), clause("a/", 0, 0))),
	)
	filters().isTold(t, make([]api.Clause, 64), "\x40"+strings.Repeat("\x03\x00\x00\x00", 64))
}

// P17.2: knowledge that nobody lays.
func TestWrongKnow(t *testing.T) {
	nine := strings.Repeat("\xff", 8)
	frag := func(s string) string { return text(list(s)) + "\x01\x00" }
	known := func(s string) string { return "\x01\x00" + text(list(s)) }
	k := knowledge()
	k.isTold(t, api.Know{Frags: []api.Frag{{V: vector(1), Not: []api.Ver{ver(1, 1)}}}}, frag("\x01\x00\x04\x01\x02\x01\x01\x04\x01\x02\x01\x01"))
	k.isTold(t, api.Know{Items: []api.Known{{Item: ver(1, 1), V: vector(1)}}}, known("\x01\x01\x04\x01\x02\x01\x01"))
	k.isForm(t,
		"",
		"\x00\x00",
		"\x01\x00",
		"\x01\x00\x01\x00\x00",
		"\x02\x00\x00\x01\x00",
		"\x01\x00\x02\x00\x00",
		"\x01\x01\x01\x00",
		"\x01\x00\x01\x01",
		"\x81\x00\x00\x01\x00",
		"\x01\x00\x02\x80\x00",
		frag(""),
		frag("\x01\x00"),
		frag("\x01\x00\x01\x00"),
		frag("\x00\x00\x00"),
		frag("\x00\x01\x00\x01\x00"),
		frag("\x01\x00\x00\x01\x00"),
		frag("\x01\x00\x01\x00\x00"),
		frag("\x01\x00\x01\x00\x01\x00\x00"),
		frag("\x02\x00\x00\x01\x00\x01\x00"),
		frag("\x01\x00\x02\x00\x00\x01\x00"),
		frag("\x01\x00\x01\x00\x02\x00\x00"),
		frag("\x02\x80\x00\x01\x00\x01\x00"),
		frag("\x01\x00\x04\x01\x02\x00\x01\x01\x00"), // a vector's replica 0
		frag("\x01\x00\x04\x01\x02\x01\x00\x01\x00"), // a vector's number 0
		frag("\x01\x00\x07\x02\x02\x02\x01\x02\x01\x01\x01\x00"), // a vector in another order
		frag("\x01\x00\x01\x00\x07\x02\x02\x02\x01\x02\x01\x01"), // items in another order
		frag("\x01\x00\x01\x00\x07\x02\x02\x01\x01\x02\x01\x01"), // the same item twice
		frag("\x05\x01\x03\x00\x02\x01\x01\x00\x01\x00"),         // a clause of nothing
		frag("\x06\x01\x04\x01A\x02\x03\x01\x00\x01\x00"),        // a clause of another prefix
		known(""),
		known("\x01"),
		known("\x01\x01"),
		known("\x01\x01\x00"),
		known("\x00\x01\x01\x00"),
		known("\x01\x00\x01\x00"),
		known("\x41\x01\x01\x00"),
		known("\x01\x01\x01\x00\x00"),
		known("\x01\x01\x02\x00\x00"),
		known("\x01\x81\x00\x01\x00"),
		known("\x01\x01\x04\x01\x02\x41\x01"),
		known("\x01\x01\x07\x02\x02\x02\x01\x02\x01\x01"),
		known("\x01\x01\x07\x02\x02\x01\x01\x02\x01\x02"),
		text(nine+"\x7f\x07\x01\x00\x01\x00\x01\x00")+"\x01\x00",
		text(nine+"\x7f")+"\x01\x00",
		"\x01\x00"+text(nine+"\x7f\x04\x01\x01\x01\x00"),
		"\x01\x00"+text("\x02\x04\x01\x01\x01\x00"),
		"\x01\x00"+text("\x00\x04\x01\x01\x01\x00"),
	)
}

// texts are all texts of so many of some bytes.
func texts(some string, many int) []string {
	l := []string{""}
	for range many {
		var longer []string
		for _, s := range l {
			for i := range len(some) {
				longer = append(longer, s+some[i:i+1])
			}
		}
		l = longer
	}
	return l
}

// P17.2, P17.3: all short texts of some bytes.
func TestAllShort(t *testing.T) {
	for many := range 8 {
		for _, s := range texts("\x00\x01\x02\x03\x80", many) {
			vectors().getIs(t, s)
			items().getIs(t, s)
			filters().getIs(t, s)
		}
	}
	for many := range 8 {
		for _, s := range texts("\x00\x01\x04\x06", many) {
			knowledge().getIs(t, s)
			// As the one claim of all.
			knowledge().getIs(t, text(list(s))+"\x01\x00")
			knowledge().getIs(t, "\x01\x00"+text(list(s)))
		}
	}
	for many := range 5 {
		for _, s := range texts("\x00\x01\x02\x80a/", many) {
			updates().getIs(t, "\x01\x02\x03\x04\x05"+s)
			updates().getIs(t, s+"\x01\x02\x01a\x01b\x00")
			metas().getIs(t, "\x01\x02\x03\x04\x05"+s)
			metas().getIs(t, s+"\x01\x02\x01a\x01\x00")
		}
	}
}

// P17.2: a count that is far too great is none, however few bytes there are.
func TestGreatCounts(t *testing.T) {
	for _, n := range edges() {
		if n < 128 {
			continue
		}
		for _, element := range []string{"", "\x00", "\x02\x01\x01", "\x03\x00\x00\x00", "\x07\x01\x00\x01\x00\x01\x00", "\x04\x01\x01\x01\x00"} {
			s := num(n) + strings.Repeat(element, 300)
			vectors().getIs(t, s)
			items().getIs(t, s)
			filters().getIs(t, s)
			knowledge().getIs(t, text(s)+"\x01\x00")
			knowledge().getIs(t, "\x01\x00"+text(s))
			formOfAll(t, s+"\xff")
		}
	}
}
