package batch_test

import (
	"slices"
	"testing"

	"lighterage/api"
	"lighterage/batch"
	"lighterage/msg"
)

// made is what Make tells, where there is no error.
func made(t *testing.T, m api.Msg, l []api.Entry, limit int) []api.Msg {
	t.Helper()
	makeIs(t, m, l, limit)
	x, e := batch.Make(m, l, limit)
	if e != api.OK || len(x) == 0 {
		t.Fatalf("Make(%s, %d) = %d messages, %d", sizes([][]api.Entry{l}), limit, len(x), int(e))
	}
	return x
}

// P19.2: each field of each message.
func TestMake(t *testing.T) {
	l := of(5, 6, 7, 8)
	for _, m := range []api.Msg{full(), whole()} {
		// 7 and 8 are too great for one of 13.
		x := made(t, m, l, 13)
		if len(x) != 3 {
			t.Fatalf("%d messages, want 3", len(x))
		}
		sid, rid := api.Sid{By: 1, Epoch: 2, N: 3}, api.Sid{By: 4, Epoch: 5, N: 6}
		want := []api.Msg{
			{Kind: 2, Sid: sid, Rid: rid, Seq: 0, Entries: l[:2]},
			{Kind: 2, Sid: sid, Rid: rid, Seq: 1, Entries: l[2:3]},
			{Kind: 2, Sid: sid, Rid: rid, Seq: 2, Entries: l[3:], Last: true, V: vector(1, 0, 3), A: vector(0, 7), Not: []api.Ver{ver(1, 1), ver(2, 300)}},
		}
		for i, one := range x {
			if !sameMsg(one, want[i]) {
				t.Errorf("message %d is %v, want %v", i, one, want[i])
			}
		}
		// One batch is the first one, and the last one.
		x = made(t, m, l, 4096)
		want[2].Seq, want[2].Entries = 0, l
		if len(x) != 1 || !sameMsg(x[0], want[2]) {
			t.Errorf("one batch is %v, want %v", x, want[2])
		}
		// So it is of no entries.
		for _, none := range [][]api.Entry{nil, {}} {
			want[2].Entries = nil
			x = made(t, m, none, 1)
			if len(x) != 1 || !sameMsg(x[0], want[2]) {
				t.Errorf("a batch of nothing is %v, want %v", x, want[2])
			}
		}
	}
}

// P19.2: nothing is asked of the message that is handed in, and of it nothing else is told.
func TestMakeOfAny(t *testing.T) {
	for _, m := range msgs() {
		for _, limit := range []int{1, 12, 4096} {
			x := made(t, m, of(5, 5, 5), limit)
			for i, one := range x {
				if one.Kind != api.MBatch || one.Sid != m.Sid || one.Rid != m.Rid || one.Seq != i || one.Last != (i == len(x)-1) {
					t.Errorf("message %d of %d: %v", i, len(x), one)
				}
				if one.Up || one.Code != 0 || len(one.F)+len(one.Held)+len(one.K.Frags)+len(one.K.Items) != 0 {
					t.Errorf("message %d of %d has what no batch has: %v", i, len(x), one)
				}
				if i < len(x)-1 && (one.V != api.Vec{} || one.A != api.Vec{} || len(one.Not) != 0) {
					t.Errorf("message %d of %d has what the last one has: %v", i, len(x), one)
				}
			}
			if last := x[len(x)-1]; last.V != m.V || last.A != m.A || !slices.Equal(last.Not, m.Not) {
				t.Errorf("the last one is %v", last)
			}
		}
	}
}

// P19.2: the numbers of very many.
func TestMakeMany(t *testing.T) {
	for _, many := range []int{1, 2, 255, 256, 257, 4096} {
		x := made(t, full(), outs(many, 5), 1)
		if len(x) != many || x[many-1].Seq != many-1 || !x[many-1].Last {
			t.Errorf("%d messages of %d entries", len(x), many)
		}
	}
	x := made(t, full(), outs(4096, 5), 4096)
	if len(x) != 16 || len(x[15].Entries) != 256 || x[15].Seq != 15 {
		t.Errorf("%d messages of 4096 entries", len(x))
	}
}

// P19.2: Make tells the error of Cut, and no message then.
func TestMakeErrors(t *testing.T) {
	for _, m := range msgs() {
		for _, c := range []struct {
			l     []api.Entry
			limit int
			want  api.Errno
		}{
			{of(5), 0, api.ErrArg},
			{of(5), 4097, api.ErrArg},
			{nil, 0, api.ErrArg},
			{[]api.Entry{{}}, 12, api.ErrArg},
			{append(of(5, 5, 5), wrongs()[5]), 5, api.ErrArg},
			{outs(4097, 5), 12, api.ErrBig},
			{outs(4097, 5), 0, api.ErrArg},
			{append(outs(4097, 5), api.Entry{}), 12, api.ErrArg},
		} {
			if e := makeIs(t, m, c.l, c.limit); e != c.want {
				t.Errorf("the model is %d, want %d", int(e), int(c.want))
			}
			if x, e := batch.Make(m, c.l, c.limit); len(x) != 0 || e != c.want {
				t.Errorf("Make of %d entries, %d: %d messages, %d, want %d", len(c.l), c.limit, len(x), int(e), int(c.want))
			}
		}
	}
}

// P19.2 with P18.1: what is made of names, vectors and items that may be is a message, and can be laid.
func TestMadeMayBe(t *testing.T) {
	lists := [][]api.Entry{nil, of(5, 6, 7), outs(4096, 5), slices.Repeat([]api.Entry{greatest()}, 300), {updated(1, "x"), noticed(2, 200), out(3, 21)}}
	for _, m := range []api.Msg{full(), whole()} {
		for _, l := range lists {
			for _, limit := range []int{1, 276, 4096} {
				for _, x := range made(t, m, l, limit) {
					s, e := msg.Put(x)
					if e != api.OK || msg.Check(x) != api.OK {
						t.Fatalf("message %d can't be laid: %d", x.Seq, int(e))
					}
					if y, e := msg.Get(s); e != api.OK || !sameMsg(x, y) {
						t.Fatalf("message %d is read otherwise: %d", x.Seq, int(e))
					}
				}
			}
		}
	}
}
