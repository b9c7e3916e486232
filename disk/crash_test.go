package disk_test

import (
	"math"
	"slices"
	"strings"
	"testing"

	"lighterage/api"
	"lighterage/disk"
)

// acts does what bytes say to a disk and its model, and to copies of them.
func acts(t *testing.T, sectors int, s string) {
	all := []pair{made(t, sectors)}
	far := []int{math.MinInt, math.MaxInt, math.MinInt + 1, -1}
	i := 0
	next := func() int {
		if i == len(s) {
			return 0
		}
		i++
		return int(s[i-1])
	}
	for i < len(s) {
		p := all[next()%len(all)]
		switch kind := next() % 16; kind {
		default:
			p.write(next()%(sectors+2)-1, strings.Repeat(string(rune('a'+next()%26)), next()%66))
		case 8, 9, 10:
			p.flush()
		case 11, 12:
			p.arm(next()%8 - 2)
		case 13, 14:
			var keep []int
			for range next() % (sectors + 2) {
				keep = append(keep, next()-128)
				if k := next(); k < len(far) {
					keep[len(keep)-1] = far[k]
				}
			}
			p.crash(keep...)
		case 15:
			if len(all) < 4 {
				all = append(all, p.copy())
			}
		}
	}
	for _, p := range all {
		alike(t, "at the end", p.d, p.m)
	}
}

// P3.1 to P3.5: long lists of acts do to a disk what they do to its model.
func TestActs(t *testing.T) {
	seed := uint64(3)
	for range 60 {
		b := make([]byte, 600)
		for i := range b {
			seed = seed*6364136223846793005 + 1442695040888963407
			b[i] = byte(seed >> 56)
		}
		acts(t, 1+int(seed>>40&7), string(b))
	}
}

// P3.1 to P3.5, R1: whatever is done.
func FuzzActs(f *testing.F) {
	f.Add(uint8(0), "")
	f.Add(uint8(3), "\x00\x00\x01a\x05\x00\x00\x01b\x05\x00\x0d\x01\x81\x10")
	f.Add(uint8(3), "\x00\x0b\x03\x00\x00\x02a\x07\x00\x08\x00\x0e\x02\x01\x00\x02\x02")
	f.Fuzz(func(t *testing.T, sectors uint8, s string) {
		if len(s) <= 1000 {
			acts(t, 1+int(sectors%9), s)
		}
	})
}

// P3.5: whatever a crash keeps, at whatever call it comes: what was flushed is there, unless its sector was written again; what is there is zeros, or was written there.
func TestDurable(t *testing.T) {
	writes := []struct {
		at int
		s  string
	}{{0, "a"}, {1, "b"}, {0, "c"}, {2, "d"}, {1, "e"}, {0, "f"}}
	for flushAt := range len(writes) + 1 {
		for fallAt := 1; fallAt <= len(writes)+2; fallAt++ {
			for mask := range 64 {
				d, _ := disk.New(4)
				flushed, may := []string{"", "", "", ""}, [][]string{{""}, {""}, {""}, {""}}
				d.Arm(fallAt)
				for i := range len(writes) + 1 {
					if i == flushAt && d.Flush() == api.OK {
						for at := range may {
							flushed[at] = may[at][len(may[at])-1]
							may[at] = []string{flushed[at]}
						}
					}
					if i < len(writes) && d.Write(writes[i].at, writes[i].s) == api.OK {
						may[writes[i].at] = append(may[writes[i].at], writes[i].s)
					}
				}
				d.Crash(mask%4, mask/4%4, -mask/16)
				for at := range may {
					got, e := d.Read(at)
					if !slices.ContainsFunc(may[at], func(s string) bool { return padded(s) == got }) || e != api.OK {
						t.Fatalf("flushed at %d, down at %d, keep %d: sector %d has %q, want one of %q", flushAt, fallAt, mask, at, got, may[at])
					}
					if len(may[at]) == 1 && got != padded(flushed[at]) {
						t.Fatalf("flushed at %d, down at %d, keep %d: sector %d has %q, %q was flushed", flushAt, fallAt, mask, at, got, flushed[at])
					}
				}
			}
		}
	}
}

// P3.3, P3.5: to crash again changes nothing, whatever is to be kept.
func TestCrashAgain(t *testing.T) {
	p := made(t, 3)
	for _, s := range []string{"a", "b"} {
		for at := range 3 {
			p.write(at, s)
		}
	}
	p.crash(2, 1)
	for _, keep := range [][]int{{}, {0, 0, 0}, {1, 2, 3}, {-1, math.MinInt}} {
		p.crash(keep...)
		is(t, p.d, 0, "b")
		is(t, p.d, 1, "a")
		is(t, p.d, 2, "")
	}
}
