package msg

import (
	"lighterage/api"
	"lighterage/leb"
	"lighterage/pack"
)

// out is fields that are to be laid, and the error of a part.
type out struct {
	fields []leb.Field
	err    api.Errno
}

// add puts fields behind those that there are.
func (x *out) add(l ...leb.Field) {
	x.fields = append(x.fields, l...)
}

// laid tells the bytes of what may be, as lay lays it.
func laid[T any](lay func(*out, T), v T) (string, api.Errno) {
	var x out
	lay(&x, v)
	if x.err != api.OK {
		return "", x.err
	}
	return leb.Lay(x.fields...)
}

// layList makes the function that lays a list: how many parts there are, then each one as part lays it.
func layList[T any](part func(*out, T)) func(*out, []T) {
	return func(x *out, l []T) {
		x.add(leb.N(len(l)))
		for _, v := range l {
			part(x, v)
		}
	}
}

// layPacked makes the function that lays something as a text, which put tells of it.
func layPacked[T any](put func(T) (string, api.Errno)) func(*out, T) {
	return func(x *out, v T) {
		s, e := put(v)
		// What has a part that is too big is too big as well.
		if e != api.OK {
			x.err = e
		}
		x.add(leb.T(s))
	}
}

// layMsg lays a message.
func layMsg(x *out, m api.Msg) {
	x.add(leb.N(m.Kind))
	laySid(x, m.Sid)
	switch m.Kind {
	case api.MRequest:
		layRequest(x, m)
	case api.MBatch:
		layBatch(x, m)
	case api.MAck:
		laySid(x, m.Rid)
	case api.MRefuse:
		x.add(leb.N(m.Code))
	}
}

// layRequest lays what a request has of its own.
func layRequest(x *out, m api.Msg) {
	x.add(flag(m.Up))
	layPacked(pack.PutFilter)(x, m.F)
	layPacked(pack.PutKnow)(x, m.K)
	layList(layPair)(x, m.Held)
}

// layBatch lays what a batch has of its own.
func layBatch(x *out, m api.Msg) {
	laySid(x, m.Rid)
	x.add(leb.N(m.Seq), flag(m.Last))
	layList(layEntry)(x, m.Entries)
	layPacked(pack.PutVec)(x, m.V)
	layPacked(pack.PutVec)(x, m.A)
	layPacked(pack.PutItems)(x, m.Not)
}

// layEntry lays an entry.
func layEntry(x *out, e api.Entry) {
	x.add(leb.N(e.Kind))
	switch e.Kind {
	case api.EUpdate:
		layPacked(pack.PutUpdate)(x, e.U)
	case api.ENotice:
		layPacked(pack.PutMeta)(x, e.M)
	case api.EOut:
		layPair(x, e.Out)
	}
}

// layPair lays an item and a version.
func layPair(x *out, p api.Pair) {
	x.add(leb.N(p.Item.By), leb.N(p.Item.N), leb.N(p.Ver.By), leb.N(p.Ver.N))
}

// laySid lays a session's name.
func laySid(x *out, s api.Sid) {
	x.add(leb.N(s.By), leb.N(s.Epoch), leb.N(s.N))
}

// flag tells the field of what is so, or not.
func flag(is bool) leb.Field {
	if is {
		return leb.N(1)
	}
	return leb.N(0)
}
