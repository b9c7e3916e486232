package msg_test

import (
	"testing"

	"lighterage/api"
)

// reader makes the function that reads numbers out of bytes: most are small, now and then one about the limits.
func reader(s []byte) func() int {
	far := edges()
	return func() int {
		if len(s) == 0 {
			return 0
		}
		b := int(s[0])
		s = s[1:]
		if b >= 235 {
			return far[b%len(far)]
		}
		return b % 6
	}
}

// some are as many things as next tells, or none.
func some[T any](next func() int, one func() T) []T {
	var l []T
	for range next() & 7 {
		l = append(l, one())
	}
	return l
}

// anyMsg reads a message, most of which may be.
func anyMsg(next func() int) api.Msg {
	names := []string{"a", "a/b", "b", "c/d/e", "", "A", "x.y"}
	name := func() string { return names[next()&7%len(names)] }
	anySid := func() api.Sid { return sid(next()+1, next()+1, next()+1) }
	anyVer := func() api.Ver { return ver(next()+1, next()+1) }
	last := api.Ver{}
	// Most come behind the last one.
	rising := func() api.Ver {
		last = ver(max(last.By, 1), max(last.N, 0)&0xffff+1)
		if next() == 5 {
			last = anyVer()
		}
		return last
	}
	anyVec := func() api.Vec {
		var v api.Vec
		for range next() & 3 {
			v[next()&63+1] = next()
		}
		return v
	}
	anyClause := func() api.Clause { return clause(name(), next(), next()+5) }
	anyItems := func() []api.Ver {
		last = api.Ver{}
		return some(next, rising)
	}
	anyFrag := func() api.Frag { return api.Frag{F: some(next, anyClause), V: anyVec(), Not: anyItems()} }
	anyKnown := func() api.Known { return api.Known{Item: anyVer(), V: anyVec()} }
	anyStamp := func() api.Stamp { return api.Stamp{Ver: anyVer(), Time: next() + 1} }
	anyEntry := func() api.Entry {
		e := api.Entry{Kind: next()&3 + 1}
		if e.Kind == api.EUpdate || next() == 5 {
			e.U = api.Update{Item: anyVer(), Stamp: anyStamp(), Path: name(), Data: name()}
		}
		if e.Kind == api.ENotice || next() == 5 {
			e.M = api.Meta{Item: anyVer(), Stamp: anyStamp(), Path: name(), Size: next()}
		}
		if e.Kind == api.EOut || next() == 5 {
			e.Out = api.Pair{Item: anyVer(), Ver: anyVer()}
		}
		return e
	}
	m := api.Msg{Kind: next(), Sid: anySid()}
	if m.Kind == api.MRequest || next() == 5 {
		m.Up, m.F = next() == 1, some(next, anyClause)
		m.K = api.Know{Frags: some(next, anyFrag), Items: some(next, anyKnown)}
		last = api.Ver{}
		m.Held = some(next, func() api.Pair { return api.Pair{Item: rising(), Ver: anyVer()} })
	}
	if m.Kind == api.MBatch || next() == 5 {
		m.Seq, m.Last, m.Entries = next(), next() == 1, some(next, anyEntry)
		m.V, m.A, m.Not = anyVec(), anyVec(), anyItems()
	}
	if m.Kind == api.MBatch || m.Kind == api.MAck || next() == 5 {
		m.Rid = anySid()
	}
	if m.Kind == api.MRefuse || next() == 5 {
		m.Code = next() + 1
	}
	return m
}

// P18.1 to P18.4, R1: whatever the bytes are, and whatever the messages.
func FuzzMsg(f *testing.F) {
	for _, m := range all() {
		f.Add(record(told(m)), told(m), []byte{1, 1, 1, 1, 1, 1, 2, 3, 4, 5, 1, 2, 3, 4, 5}, []byte{2, 1, 1, 1, 1, 0, 0, 2})
	}
	f.Add("", "", []byte{3, 2, 1, 0, 236, 237, 238, 239, 240, 241}, []byte{4, 242, 243, 244, 245})
	f.Add("\x07", "\x05\x01\x01\x01", []byte{235, 1, 1, 1}, []byte{2, 3, 3, 3, 3, 1, 7, 1, 0, 1, 1, 1, 1, 2, 1, 1, 1, 1, 0, 0, 0, 1, 1, 5, 2})
	f.Fuzz(func(t *testing.T, s, body string, a, b []byte) {
		getIs(t, s)
		getIs(t, record(s))
		getIs(t, record(body))
		m, x := anyMsg(reader(a)), anyMsg(reader(b))
		for _, one := range []api.Msg{m, x} {
			putIs(t, one)
			getIs(t, record(told(one)))
			for _, e := range one.Entries {
				sizeIs(t, e)
			}
		}
		sameIs(t, m, x)
		sameIs(t, m, anyMsg(reader(a)))
	})
}
