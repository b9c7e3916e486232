package batch_test

import (
	"reflect"
	"slices"
	"testing"

	"lighterage/api"
	"lighterage/batch"
)

// roomy is a list of the same with spare room behind it, which has something else in it.
func roomy[T any](l []T, spare T) []T {
	return append(slices.Clone(l), spare, spare, spare)[:len(l)]
}

// spoil writes over all that there is in a list, and behind it.
func spoil[T any](l []T, with T) {
	for i := range l[:cap(l)] {
		l[:cap(l)][i] = with
	}
}

// keptLists are entries, and limits, by which they are cut into one or more batches, or not at all.
func keptLists() ([][]api.Entry, []int) {
	return [][]api.Entry{nil, of(5), of(5, 6, 7, 8, 9), outs(600, 5), {updated(1, "x"), noticed(2, 3)}, {out(1, 5), {}, out(2, 5)}, outs(4097, 5)}, []int{0, 1, 12, 13, 4096}
}

// R3: what is handed in stays as it is, its spare room too.
func TestArgumentsStay(t *testing.T) {
	lists, limits := keptLists()
	for _, x := range lists {
		for _, limit := range limits {
			l := roomy(x, noticed(9, 9))
			was := slices.Clone(l[:cap(l)])
			m, same := whole(), whole()
			m.Not = roomy(m.Not, ver(7, 8))
			m.Entries = roomy(m.Entries, out(9, 9))
			nots, entries := slices.Clone(m.Not[:cap(m.Not)]), slices.Clone(m.Entries[:cap(m.Entries)])
			batch.Weigh(l)
			batch.Cut(l, limit)
			batch.Make(m, l, limit)
			if !slices.Equal(l[:cap(l)], was) {
				t.Fatalf("the entries of %s, %d are others", sizes([][]api.Entry{x}), limit)
			}
			if !slices.Equal(m.Not[:cap(m.Not)], nots) || !slices.Equal(m.Entries[:cap(m.Entries)], entries) || !reflect.DeepEqual(m, same) {
				t.Fatalf("the message is %v", m)
			}
		}
	}
}

// R3: the batches are new memory: neither the entries that were handed in, nor other batches.
func TestBatchesAreNew(t *testing.T) {
	lists, limits := keptLists()
	for _, x := range lists {
		for _, limit := range limits {
			want, _ := modelCut(x, limit)
			for i := range want {
				l := roomy(x, noticed(9, 9))
				was := slices.Clone(l[:cap(l)])
				first, _ := batch.Cut(l, limit)
				second, _ := batch.Cut(l, limit)
				// What is put behind a batch, and all that there is of it.
				_ = append(first[i], noticed(8, 8), noticed(8, 8))
				if !sameBatches(first, want) {
					t.Fatalf("behind batch %d of %s there is another one", i, sizes(want))
				}
				spoil(first[i], noticed(8, 8))
				if !slices.Equal(l[:cap(l)], was) {
					t.Fatalf("batch %d of %s is what was handed in", i, sizes(want))
				}
				if !sameBatches(second, want) || !sameBatches(first[:i], want[:i]) || !sameBatches(first[i+1:], want[i+1:]) {
					t.Fatalf("batch %d of %s is another one's, too", i, sizes(want))
				}
				// The list of batches is new memory, too.
				spoil(first, nil)
				if !sameBatches(second, want) {
					t.Fatalf("the batches of %s are those of another answer", sizes(want))
				}
				spoil(l, noticed(7, 7))
				if !sameBatches(second, want) {
					t.Fatalf("the batches of %s are what was handed in", sizes(want))
				}
				if len(want) > 100 && i > 2 {
					break
				}
			}
		}
	}
}

// R3: the messages are new memory as well.
func TestMessagesAreNew(t *testing.T) {
	lists, limits := keptLists()
	for _, x := range lists {
		for _, limit := range limits {
			want, _ := modelMake(whole(), x, limit)
			for i := range want {
				m, l := whole(), roomy(x, noticed(9, 9))
				m.Not = roomy(m.Not, ver(7, 8))
				first, _ := batch.Make(m, l, limit)
				second, _ := batch.Make(m, l, limit)
				_ = append(first[i].Entries, noticed(8, 8))
				_ = append(first[i].Not, ver(8, 8))
				if !slices.EqualFunc(first, want, sameMsg) || m.Not[:3][2] != ver(7, 8) {
					t.Fatalf("behind message %d of %s there is another one", i, sizes([][]api.Entry{x}))
				}
				spoil(first[i].Entries, noticed(8, 8))
				spoil(first[i].Not, ver(8, 8))
				if !slices.Equal(l, x) || !reflect.DeepEqual(m, whole()) {
					t.Fatalf("message %d of %s is what was handed in", i, sizes([][]api.Entry{x}))
				}
				spoil(l, noticed(6, 6))
				spoil(m.Not, ver(6, 6))
				if !slices.EqualFunc(second, want, sameMsg) {
					t.Fatalf("message %d of %s is another answer's", i, sizes([][]api.Entry{x}))
				}
				if !slices.EqualFunc(first[:i], want[:i], sameMsg) || !slices.EqualFunc(first[i+1:], want[i+1:], sameMsg) {
					t.Fatalf("message %d of %s is another one's, too", i, sizes([][]api.Entry{x}))
				}
				if len(want) > 100 && i > 2 {
					break
				}
			}
		}
	}
}

// R4: what was asked ahead is not kept: something else in the same place is asked anew.
func TestNothingIsKept(t *testing.T) {
	l := of(5, 5, 5, 5)
	m := full()
	for bytes := 5; bytes <= 21; bytes++ {
		l[1], m.Seq, m.Sid.N, m.Not[0].N = out(2, bytes), bytes, bytes, bytes
		cutIs(t, l, 15)
		makeIs(t, m, l, 15)
		// An error is nothing to what comes behind it.
		isNotCut(t, api.ErrArg, l, 0)
		l[2] = api.Entry{}
		isNotCut(t, api.ErrArg, l, 15)
		l[2] = out(3, 5)
		isNotCut(t, api.ErrBig, slices.Repeat(l, 1025), 15)
		cutIs(t, l, 15)
		cutIs(t, l, 4096)
	}
}
