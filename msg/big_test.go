package msg_test

import (
	"slices"
	"strings"
	"testing"

	"lighterage/api"
	"lighterage/msg"
)

// manyItems are so many items that take eleven bytes each in a list.
func manyItems(many int) []api.Ver {
	l := make([]api.Ver, many)
	for i := range l {
		l[i] = ver(1, 1<<56+i)
	}
	return l
}

// filled is a batch whose body has so many bytes, 100 or more, most of which are of Not.
func filled(bytes int) api.Msg {
	m := api.Msg{Kind: api.MBatch, Sid: sid(1, 2, 3), Rid: sid(4, 5, 6), Entries: []api.Entry{updated("")}}
	m.Not = manyItems((bytes - 50) / 11)
	m.Entries[0].U.Data = strings.Repeat("x", bytes-len(told(m)))
	return m
}

// asked is a request whose body has so many bytes, 100 or more, most of which are of K.
func asked(bytes int) api.Msg {
	m := api.Msg{Kind: api.MRequest, Sid: sid(1, 2, 3), F: []api.Clause{clause("", 0, 0)}, Held: []api.Pair{pair(1, 1, 1, 1)}}
	m.K.Frags = []api.Frag{{Not: manyItems((bytes - 50) / 11)}}
	for _, n := range []*int{&m.Held[0].Item.N, &m.Held[0].Ver.N, &m.Sid.N, &m.Sid.Epoch} {
		for len(told(m)) < bytes && *n < 1<<56 {
			*n <<= 7
		}
	}
	return m
}

// P18.1, P18.2, P18.4: bodies of just as many bytes as may be laid, and of more.
func TestManyBytes(t *testing.T) {
	for _, made := range []func(int) api.Msg{filled, asked} {
		for bytes := 100; bytes < 140; bytes++ {
			putIs(t, made(bytes))
		}
		// The length of such a body takes three bytes, and the sum four.
		last := blob - 7
		for bytes := last - 3; bytes <= blob+3; bytes++ {
			m, want := made(bytes), api.OK
			if bytes > last {
				want = api.ErrBig
			}
			body := told(m)
			if e := putIs(t, m); len(body) != bytes || e != want {
				t.Errorf("a body for %d bytes: the model lays %d bytes, and tells %d", bytes, len(body), int(e))
			}
			if e := msg.Check(m); e != api.OK {
				t.Errorf("Check of a message with a body of %d bytes: %d", bytes, int(e))
			}
			if s, e := msg.Put(m); e != want || e == api.OK && len(s) != bytes+7 {
				t.Errorf("Put of a message with a body of %d bytes: %d bytes, %d", bytes, len(s), int(e))
			}
			if e := getIs(t, record(body)); (e == api.OK) != (bytes <= last) {
				t.Errorf("a body of %d bytes: the model's Get is %d", bytes, int(e))
			}
		}
	}
}

// P18.1: entries that together are too many bytes, though none of them is.
func TestManyBytesOfEntries(t *testing.T) {
	x := api.Update{Item: ver(64, most), Stamp: api.Stamp{Ver: ver(64, most), Time: most}, Path: "aaaaaaaaaaaa/aaaaaaaaaaaa/aaaaaaaaaaaa/a", Data: strings.Repeat("\xff", 200)}
	e := api.Entry{Kind: api.EUpdate, U: x}
	sizeIs(t, e)
	for many := 225; many <= 256; many++ {
		m := edited(batch(), func(m *api.Msg) { m.Entries = slices.Repeat([]api.Entry{e}, many) })
		want := api.OK
		if 7+len(told(m)) > blob {
			want = api.ErrBig
		}
		if e := putIs(t, m); e != want {
			t.Errorf("%d entries: the model tells %d", many, int(e))
		}
		getIs(t, record(told(m)))
	}
	isWrong(t, api.ErrBig, edited(batch(), func(m *api.Msg) { m.Entries = slices.Repeat([]api.Entry{e}, 256) }))
}

// P18.1: parts that are too big by themselves are valid, and make all of it too big.
func TestBigParts(t *testing.T) {
	many := manyItems(7000)
	for _, edit := range []func(*api.Msg){
		func(m *api.Msg) { m.K.Frags[0].Not = many },
		func(m *api.Msg) { m.K.Frags = slices.Repeat([]api.Frag{{Not: many[:4000]}}, 2) },
		func(m *api.Msg) {
			m.K.Items = slices.Repeat([]api.Known{{Item: ver(64, most), V: vector(1, 2, 3)}}, 4096)
		},
	} {
		m := edited(request(), edit)
		isWrong(t, api.ErrBig, m)
		// Not valid comes ahead of too big, wherever it stands.
		for _, wrong := range wrongs(api.MRequest) {
			isWrong(t, api.ErrArg, edited(m, wrong))
		}
	}
	for _, edit := range []func(*api.Msg){
		func(m *api.Msg) { m.Not = many },
		func(m *api.Msg) { m.Not = many[:blob/11] },
		func(m *api.Msg) { m.Not = many[:blob/11+1] },
	} {
		m := edited(batch(), edit)
		isWrong(t, api.ErrBig, m)
		for _, wrong := range wrongs(api.MBatch) {
			isWrong(t, api.ErrArg, edited(m, wrong))
		}
	}
}

// wrongs are edits of which each makes a message of a kind one that is not valid.
func wrongs(kind int) []func(*api.Msg) {
	l := []func(*api.Msg){
		func(m *api.Msg) { m.Sid.By = 0 },
		func(m *api.Msg) { m.Sid.Epoch = 0 },
		func(m *api.Msg) { m.Sid.N = -1 },
		func(m *api.Msg) { m.Code = 1 },
		func(m *api.Msg) { m.Kind = 0 },
		func(m *api.Msg) { m.Kind = 3 },
		func(m *api.Msg) { m.Kind = 4 },
		func(m *api.Msg) { m.Kind = 3 - m.Kind },
	}
	if kind == api.MRequest {
		return append(l,
			func(m *api.Msg) { m.F[1].Prefix = "/" },
			func(m *api.Msg) { m.K.Frags = slices.Repeat(m.K.Frags, 65) },
			func(m *api.Msg) { m.K.Items = append(m.K.Items, api.Known{}) },
			func(m *api.Msg) { m.Held[2].Ver.N = 0 },
			func(m *api.Msg) { m.Held[2].Item = m.Held[1].Item },
			func(m *api.Msg) { m.Held = someHeld(257) },
			func(m *api.Msg) { m.Rid = sid(1, 1, 1) },
			func(m *api.Msg) { m.Seq = 1 },
			func(m *api.Msg) { m.Last = true },
			func(m *api.Msg) { m.Entries = batch().Entries },
			func(m *api.Msg) { m.V[1] = 1 },
			func(m *api.Msg) { m.A[1] = 1 },
			func(m *api.Msg) { m.Not = batch().Not },
		)
	}
	return append(l,
		func(m *api.Msg) { m.Rid.By = 65 },
		func(m *api.Msg) { m.Seq = -1 },
		func(m *api.Msg) { m.Seq = 1<<20 + 1 },
		func(m *api.Msg) { m.Entries[2].Out.Item.By = 0 },
		func(m *api.Msg) { m.Entries = slices.Repeat(m.Entries, 86) },
		func(m *api.Msg) { m.V[0] = 1 },
		func(m *api.Msg) { m.A[64] = -1 },
		func(m *api.Msg) { m.Not = append(m.Not, m.Not[0]) },
		func(m *api.Msg) { m.Up = true },
		func(m *api.Msg) { m.F = request().F },
		func(m *api.Msg) { m.K = claims() },
		func(m *api.Msg) { m.Held = request().Held },
	)
}

// R1: what is far too long ends, with the error that the document names.
func TestVeryLong(t *testing.T) {
	is := func(what string, e, want api.Errno) {
		t.Helper()
		if e != want {
			t.Errorf("%s: %d, want %d", what, int(e), int(want))
		}
	}
	long := map[string]api.Msg{
		"very many pairs":   edited(request(), func(m *api.Msg) { m.Held = make([]api.Pair, 5_000_000) }),
		"very many clauses": edited(request(), func(m *api.Msg) { m.F = make([]api.Clause, 5_000_000) }),
		"very many claims":  edited(request(), func(m *api.Msg) { m.K.Items = make([]api.Known, 100_000) }),
		"very many entries": edited(batch(), func(m *api.Msg) { m.Entries = make([]api.Entry, 200_000) }),
		"items of another":  edited(ack(), func(m *api.Msg) { m.Not = manyItems(2_000_000) }),
		"a very long path":  edited(batch(), func(m *api.Msg) { m.Entries[0].U.Path = strings.Repeat("a/", 10_000_000) }),
		"very long data":    edited(batch(), func(m *api.Msg) { m.Entries[0].U.Data = strings.Repeat("a", 50_000_000) }),
	}
	for what, m := range long {
		is(what, msg.Check(m), api.ErrArg)
		_, e := msg.Put(m)
		is(what, e, api.ErrArg)
		if !msg.Same(m, m) || msg.Same(m, ack()) {
			t.Errorf("%s: Same", what)
		}
	}
	m := edited(batch(), func(m *api.Msg) { m.Not = manyItems(2_000_000) })
	is("very many items", msg.Check(m), api.OK)
	_, e := msg.Put(m)
	is("very many items", e, api.ErrBig)
	for _, body := range []string{
		strings.Repeat("\x00", 20_000_000),
		strings.Repeat("\x01", 20_000_000),
		"\x02\x01\x01\x01\x01\x01\x01\x00\x00" + num(20_000_000) + strings.Repeat("\x03\x01\x01\x01\x01", 4_000_000),
		"\x01\x01\x01\x01\x00" + text(strings.Repeat("\x00", 20_000_000)) + "\x04\x01\x00\x01\x00\x00",
		"\x02\x01\x01\x01\x01\x01\x01\x00\x00\x01\x01" + text(strings.Repeat("\xff", 20_000_000)) + "\x01\x00\x01\x00\x01\x00",
	} {
		_, e := msg.Get(record(body))
		is("a very long body", e, api.ErrForm)
	}
	_, e = msg.Get(record(told(ack())) + strings.Repeat("\x00", 50_000_000))
	is("very many bytes behind", e, api.ErrForm)
	_, e = msg.Get(strings.Repeat("\xff", 50_000_000))
	is("very many bytes", e, api.ErrForm)
	_, e = msg.Get(num(50_000_001) + strings.Repeat("\x00", 50_000_000))
	is("very many bytes that end", e, api.ErrShort)
}
