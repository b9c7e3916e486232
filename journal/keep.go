package journal

import (
	"lighterage/api"
	"lighterage/frame"
)

// Append keeps records behind the others.
func (j *Journal) Append(l ...string) api.Errno {
	if e := j.ready(); e != api.OK || len(l) == 0 {
		return e
	}
	return j.keep(j.head, j.tail, l)
}

// Rewrite keeps records instead of the others.
func (j *Journal) Rewrite(l ...string) api.Errno {
	if e := j.ready(); e != api.OK {
		return e
	}
	return j.keep(head{seq: j.head.seq, half: halves - 1 - j.head.half}, nil, l)
}

// ready tells the error of a journal in which nothing can be kept.
func (j *Journal) ready() api.Errno {
	if j == nil {
		return api.ErrNil
	}
	if j.broken {
		return api.ErrState
	}
	if j.head.seq == api.MaxCount {
		return api.ErrCount
	}
	return api.OK
}

// keep keeps records behind the bytes that a head says are used, those in the last sector of which are tail.
func (j *Journal) keep(h head, tail []byte, l []string) api.Errno {
	laid, e := frame.Lay(l...)
	if e != api.OK {
		return e
	}
	if len(laid) > halfBytes(j.d)-h.used {
		return api.ErrFull
	}
	at := sectorOf(j.d, h.half, h.used)
	// Cut, so that the journal's own bytes stay as they are till all is safe.
	b := append(tail[:len(tail):len(tail)], laid...)
	h.seq++
	h.used += len(laid)
	if e := j.write(at, b, h); e != api.OK {
		j.broken = true
		return e
	}
	j.head, j.tail = h, tailOf(b)
	return api.OK
}

// write lets bytes be safe, from a sector on, and behind them the head that counts them: ahead of them it could be kept without them.
func (j *Journal) write(at int, b []byte, h head) api.Errno {
	put := inOrder(j.d.Write, at)
	for len(b) > 0 {
		n := min(len(b), api.Sector)
		if e := put(b[:n]); e != api.OK {
			return e
		}
		b = b[n:]
	}
	if e := j.d.Flush(); e != api.OK {
		return e
	}
	return h.set(j.d)
}

// inOrder makes the function that writes one sector behind the other, from a place on.
func inOrder(write func(int, string) api.Errno, at int) func([]byte) api.Errno {
	return func(b []byte) api.Errno {
		e := write(at, string(b))
		at++
		return e
	}
}
