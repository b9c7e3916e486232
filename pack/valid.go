package pack

import (
	"slices"

	"lighterage/api"
	"lighterage/filter"
	"lighterage/iset"
	"lighterage/vec"
	"lighterage/vers"
)

const (
	maxClauses = 64   // clauses of a filter here: what is known may be put together of several
	maxFrags   = 64   // whole claims of knowledge
	maxKnown   = 4096 // items' claims of knowledge
)

// validVec tells whether a vector stands as it counts.
func validVec(v api.Vec) bool {
	return vec.Clean(v) == v
}

// validItems tells whether a list is a set of versions that may be.
func validItems(l []api.Ver) bool {
	return all(l, validVer) && slices.Equal(iset.Of(l...), l)
}

// validVer tells whether a version may be.
func validVer(v api.Ver) bool {
	return vers.Check(v) == api.OK
}

// validFilter tells whether clauses may be, and are not too many here.
func validFilter(f []api.Clause) bool {
	return len(f) <= maxClauses && all(f, validClause)
}

// validClause tells whether a clause may be.
func validClause(c api.Clause) bool {
	// By itself, as filter permits fewer clauses at once.
	return filter.Check([]api.Clause{c}) == api.OK
}

// validKnow tells whether all claims may be, and are not too many.
func validKnow(k api.Know) bool {
	return len(k.Frags) <= maxFrags && all(k.Frags, validFrag) && len(k.Items) <= maxKnown && all(k.Items, validKnown)
}

// validFrag tells whether a whole claim may be.
func validFrag(x api.Frag) bool {
	return validFilter(x.F) && validVec(x.V) && validItems(x.Not)
}

// validKnown tells whether an item's claim may be.
func validKnown(x api.Known) bool {
	return validVer(x.Item) && validVec(x.V)
}

// all tells whether each one of a list is so.
func all[T any](l []T, is func(T) bool) bool {
	return !slices.ContainsFunc(l, func(x T) bool { return !is(x) })
}
