package msg

import (
	"lighterage/api"
	"lighterage/leb"
	"lighterage/pack"
)

// readList makes the function that reads a list, each part as read reads it.
func readList[T any](read func(*leb.In) T) func(*leb.In) []T {
	return func(in *leb.In) []T {
		var l []T
		// No more are ever laid, so no more need be read, whatever number there is said to be.
		for range min(in.N(), api.MaxItems) {
			l = append(l, read(in))
		}
		return l
	}
}

// readPacked makes the function that reads a text, and tells what get reads of it.
func readPacked[T any](get func(string) (T, api.Errno)) func(*leb.In) T {
	return func(in *leb.In) T {
		// Behind an error it is something that is laid otherwise, or not at all.
		x, _ := get(in.T())
		return x
	}
}

// readMsg reads a message.
func readMsg(in *leb.In) api.Msg {
	m := api.Msg{Kind: in.N(), Sid: readSid(in)}
	switch m.Kind {
	case api.MRequest:
		readRequest(in, &m)
	case api.MBatch:
		readBatch(in, &m)
	case api.MAck:
		m.Rid = readSid(in)
	case api.MRefuse:
		m.Code = in.N()
	}
	return m
}

// readRequest reads what a request has of its own.
func readRequest(in *leb.In, m *api.Msg) {
	m.Up = readFlag(in)
	m.F = readPacked(pack.GetFilter)(in)
	m.K = readPacked(pack.GetKnow)(in)
	m.Held = readList(readPair)(in)
}

// readBatch reads what a batch has of its own.
func readBatch(in *leb.In, m *api.Msg) {
	m.Rid, m.Seq, m.Last = readSid(in), in.N(), readFlag(in)
	m.Entries = readList(readEntry)(in)
	m.V = readPacked(pack.GetVec)(in)
	m.A = readPacked(pack.GetVec)(in)
	m.Not = readPacked(pack.GetItems)(in)
}

// readEntry reads an entry.
func readEntry(in *leb.In) api.Entry {
	e := api.Entry{Kind: in.N()}
	switch e.Kind {
	case api.EUpdate:
		e.U = readPacked(pack.GetUpdate)(in)
	case api.ENotice:
		e.M = readPacked(pack.GetMeta)(in)
	case api.EOut:
		e.Out = readPair(in)
	}
	return e
}

// readPair reads an item and a version.
func readPair(in *leb.In) api.Pair {
	return api.Pair{Item: readVer(in), Ver: readVer(in)}
}

// readVer reads a version.
func readVer(in *leb.In) api.Ver {
	return api.Ver{By: in.N(), N: in.N()}
}

// readSid reads a session's name.
func readSid(in *leb.In) api.Sid {
	return api.Sid{By: in.N(), Epoch: in.N(), N: in.N()}
}

// readFlag reads whether something is so.
func readFlag(in *leb.In) bool {
	return in.N() == 1
}
