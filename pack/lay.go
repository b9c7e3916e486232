package pack

import (
	"lighterage/api"
	"lighterage/leb"
	"lighterage/update"
	"lighterage/vec"
)

// layer lays fields, one behind the other; behind an error nothing more.
type layer func(l ...leb.Field) string

// put tells the bytes of what may be, as lay lays it.
func put[T any](x T, valid bool, lay func(layer, T) string) (string, api.Errno) {
	if !valid {
		return "", api.ErrArg
	}
	err := api.OK
	s := lay(func(l ...leb.Field) string {
		// What has a part that is too big is too big as well, so the rest need not be laid.
		if err != api.OK {
			return ""
		}
		part, e := leb.Lay(l...)
		err = e
		return part
	}, x)
	return s, err
}

// layList makes the function that lays a list: how many elements there are, then each one as a text, as part lays it.
func layList[T any](part func(layer, T) string) func(layer, []T) string {
	return func(lay layer, l []T) string {
		fields := []leb.Field{leb.N(len(l))}
		// An element takes a byte at least, so of very many these alone are too big.
		for i := range min(len(l), api.MaxBlob) {
			fields = append(fields, leb.T(part(lay, l[i])))
		}
		return lay(fields...)
	}
}

// layUpdate lays an update.
func layUpdate(lay layer, u api.Update) string {
	return layAround(lay, update.Meta(u), leb.T(u.Data))
}

// layMeta lays a meta.
func layMeta(lay layer, m api.Meta) string {
	return layAround(lay, m, leb.N(m.Size))
}

// layAround lays what an update and its meta have alike, around the field that differs.
func layAround(lay layer, m api.Meta, own leb.Field) string {
	dead := leb.N(0)
	if m.Dead {
		dead = leb.N(1)
	}
	return lay(leb.N(m.Item.By), leb.N(m.Item.N), leb.N(m.By), leb.N(m.N), leb.N(m.Time), leb.T(m.Path), own, dead)
}

// layVer lays a version.
func layVer(lay layer, v api.Ver) string {
	return lay(leb.N(v.By), leb.N(v.N))
}

// layVec lays a vector.
func layVec(lay layer, v api.Vec) string {
	return layList(layVer)(lay, vec.Ends(v))
}

// layClause lays a clause.
func layClause(lay layer, c api.Clause) string {
	return lay(leb.T(c.Prefix), leb.N(c.Lo), leb.N(c.Hi))
}

// layFrag lays a whole claim.
func layFrag(lay layer, x api.Frag) string {
	return lay(leb.T(layList(layClause)(lay, x.F)), leb.T(layVec(lay, x.V)), leb.T(layList(layVer)(lay, x.Not)))
}

// layKnown lays an item's claim.
func layKnown(lay layer, x api.Known) string {
	return lay(leb.N(x.Item.By), leb.N(x.Item.N), leb.T(layVec(lay, x.V)))
}

// layKnow lays knowledge.
func layKnow(lay layer, k api.Know) string {
	return lay(leb.T(layList(layFrag)(lay, k.Frags)), leb.T(layList(layKnown)(lay, k.Items)))
}
