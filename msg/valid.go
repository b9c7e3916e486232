package msg

import (
	"slices"

	"lighterage/api"
	"lighterage/pack"
	"lighterage/vers"
)

const (
	maxSeq  = 1 << 20 // the number of a batch
	maxCode = 100     // what is told of a refusal
)

// own tells what a message has of the fields of its kind alone.
func own(m api.Msg) api.Msg {
	x := api.Msg{Kind: m.Kind, Sid: m.Sid}
	switch m.Kind {
	case api.MRequest:
		x.Up, x.F, x.K, x.Held = m.Up, m.F, m.K, m.Held
	case api.MBatch:
		x.Rid, x.Seq, x.Last, x.Entries = m.Rid, m.Seq, m.Last, m.Entries
		x.V, x.A, x.Not = m.V, m.A, m.Not
	case api.MAck:
		x.Rid = m.Rid
	case api.MRefuse:
		x.Code = m.Code
	}
	return x
}

// validOwn tells whether the fields of a message's kind may be, and there is such a kind.
func validOwn(m api.Msg) bool {
	switch m.Kind {
	case api.MRequest:
		return validHeld(m.Held) && valid(pack.PutFilter, m.F) && valid(pack.PutKnow, m.K)
	case api.MBatch:
		return validSid(m.Rid) && within(m.Seq, 0, maxSeq) && validList(m.Entries, validEntry) &&
			valid(pack.PutVec, m.V) && valid(pack.PutVec, m.A) && valid(pack.PutItems, m.Not)
	case api.MAck:
		return validSid(m.Rid)
	case api.MRefuse:
		return within(m.Code, 1, maxCode)
	}
	return false
}

// validEntry tells whether an entry may be.
func validEntry(e api.Entry) bool {
	switch e.Kind {
	case api.EUpdate:
		return e == (api.Entry{Kind: e.Kind, U: e.U}) && valid(pack.PutUpdate, e.U)
	case api.ENotice:
		return e == (api.Entry{Kind: e.Kind, M: e.M}) && valid(pack.PutMeta, e.M)
	case api.EOut:
		return e == (api.Entry{Kind: e.Kind, Out: e.Out}) && validPair(e.Out)
	}
	return false
}

// validHeld tells whether pairs may be, and their items rise.
func validHeld(l []api.Pair) bool {
	if !validList(l, validPair) {
		return false
	}
	for i := 1; i < len(l); i++ {
		if !vers.Before(l[i-1].Item, l[i].Item) {
			return false
		}
	}
	return true
}

// validPair tells whether a pair may be.
func validPair(p api.Pair) bool {
	return validVer(p.Item) && validVer(p.Ver)
}

// validSid tells whether a session's name may be.
func validSid(s api.Sid) bool {
	// Both numbers are of the replica, as that of a version is.
	return validVer(api.Ver{By: s.By, N: s.Epoch}) && validVer(api.Ver{By: s.By, N: s.N})
}

// validVer tells whether a version may be.
func validVer(v api.Ver) bool {
	return vers.Check(v) == api.OK
}

// valid tells whether something may be, as put tells.
func valid[T any](put func(T) (string, api.Errno), x T) bool {
	_, e := put(x)
	// What is too big may be, though it can't be laid.
	return e != api.ErrArg
}

// validList tells whether there are no more than may be, and each one is so.
func validList[T any](l []T, is func(T) bool) bool {
	return len(l) <= api.MaxItems && !slices.ContainsFunc(l, func(x T) bool { return !is(x) })
}

// within tells whether a number is from one to another one.
func within(n, lo, hi int) bool {
	return lo <= n && n <= hi
}
