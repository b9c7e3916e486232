package store

import "lighterage/api"

const maxChanges = 1024

// Check tells whether changes may be done.
func (s *Store) Check(l ...Change) api.Errno {
	_, e := s.behind(l)
	return e
}

// Do does a transaction.
func (s *Store) Do(l ...Change) api.Errno {
	next, e := s.behind(l)
	if e != api.OK {
		return e
	}
	// Else the journal could not be rewritten, and nothing would make room any more.
	if next.laid > min(s.j.Room()+s.j.Used(), api.MaxBlob) {
		return api.ErrFull
	}
	if e := s.keep(l, next); e != api.OK {
		s.broken = true
		return e
	}
	s.has = next
	return api.OK
}

// behind tells the values behind changes, if these may be done.
func (s *Store) behind(l []Change) (values, api.Errno) {
	if s == nil {
		return values{}, api.ErrNil
	}
	if s.broken {
		return values{}, api.ErrDown
	}
	if !allValid(l) {
		return values{}, api.ErrArg
	}
	next := s.has.behind(l)
	// What makes it no more may be done even beyond the quota, as with a lesser one than it had.
	if next.bytes > max(s.quota, s.has.bytes) {
		return values{}, api.ErrQuota
	}
	return next, api.OK
}

// allValid tells whether changes may be a transaction.
func allValid(l []Change) bool {
	if len(l) < 1 || len(l) > maxChanges {
		return false
	}
	for _, c := range l {
		if !c.valid() {
			return false
		}
	}
	return true
}

// keep lets the journal have changes, or, where it has no room for these, the values behind them alone.
func (s *Store) keep(l []Change, next values) api.Errno {
	r, e := record(l...)
	if e == api.OK {
		e = s.j.Append(r)
	}
	if e == api.ErrFull || e == api.ErrBig {
		return s.j.Rewrite(next.records()...)
	}
	return e
}
