package pack

import (
	"lighterage/api"
	"lighterage/leb"
	"lighterage/vec"
)

// get tells what read reads, if its bytes are those that put lays.
func get[T any](s string, read func(*leb.In) T, put func(T) (string, api.Errno)) (T, api.Errno) {
	var none T
	// Nothing longer is ever laid, so it need not be read.
	if len(s) > api.MaxBlob {
		return none, api.ErrForm
	}
	x := read(leb.Over(s))
	// To lay it again tells all at once that nobody lays: fields that end, bytes that are left, other orders, what may not be.
	if again, e := put(x); e != api.OK || again != s {
		return none, api.ErrForm
	}
	return x, api.OK
}

// readList makes the function that reads a list, each element as read reads it.
func readList[T any](read func(*leb.In) T) func(*leb.In) []T {
	return func(in *leb.In) []T {
		var l []T
		for range in.N() {
			part := inner(in)
			l = append(l, read(part))
			// No element is without bytes, so none is read well where the list has ended, however many it is said to have.
			if part.End() != api.OK {
				break
			}
		}
		return l
	}
}

// inner begins to read the next text.
func inner(in *leb.In) *leb.In {
	return leb.Over(in.T())
}

// readUpdate reads an update.
func readUpdate(in *leb.In) api.Update {
	return api.Update{Item: readVer(in), Stamp: readStamp(in), Path: in.T(), Data: in.T(), Dead: in.N() == 1}
}

// readMeta reads a meta.
func readMeta(in *leb.In) api.Meta {
	return api.Meta{Item: readVer(in), Stamp: readStamp(in), Path: in.T(), Size: in.N(), Dead: in.N() == 1}
}

// readStamp reads a stamp.
func readStamp(in *leb.In) api.Stamp {
	return api.Stamp{Ver: readVer(in), Time: in.N()}
}

// readVer reads a version.
func readVer(in *leb.In) api.Ver {
	return api.Ver{By: in.N(), N: in.N()}
}

// readVec reads a vector.
func readVec(in *leb.In) api.Vec {
	return vec.Of(readList(readVer)(in)...)
}

// readClause reads a clause.
func readClause(in *leb.In) api.Clause {
	return api.Clause{Prefix: in.T(), Range: api.Range{Lo: in.N(), Hi: in.N()}}
}

// readFrag reads a whole claim.
func readFrag(in *leb.In) api.Frag {
	return api.Frag{F: readList(readClause)(inner(in)), V: readVec(inner(in)), Not: readList(readVer)(inner(in))}
}

// readKnown reads an item's claim.
func readKnown(in *leb.In) api.Known {
	return api.Known{Item: readVer(in), V: readVec(inner(in))}
}

// readKnow reads knowledge.
func readKnow(in *leb.In) api.Know {
	return api.Know{Frags: readList(readFrag)(inner(in)), Items: readList(readKnown)(inner(in))}
}
