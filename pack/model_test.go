package pack_test

import (
	"encoding/binary"
	"math"
	"regexp"
	"slices"
	"strings"
	"testing"

	"lighterage/api"
	"lighterage/pack"
)

const (
	least = math.MinInt
	most  = math.MaxInt
	blob  = 1 << 16 // bytes that may be laid
)

var (
	nameForm = regexp.MustCompile(`\A[a-z0-9._-]{1,12}\z`)
	onlyDots = regexp.MustCompile(`\A\.*\z`)
)

// num is a number's bytes.
func num(n int) string {
	return string(binary.AppendUvarint(nil, uint64(n)))
}

// text is a text's bytes.
func text(s string) string {
	return num(len(s)) + s
}

// nums are the bytes of numbers.
func nums(l ...int) string {
	s := ""
	for _, n := range l {
		s += num(n)
	}
	return s
}

// list is a list of elements that are laid already.
func list(l ...string) string {
	var s strings.Builder
	s.WriteString(num(len(l)))
	for _, x := range l {
		s.WriteString(text(x))
	}
	return s.String()
}

// listOf is a list of elements, each as it is told.
func listOf[T any](l []T, tell func(T) string) string {
	var s []string
	for _, x := range l {
		s = append(s, tell(x))
	}
	return list(s...)
}

// each tells whether all of a list are so.
func each[T any](l []T, is func(T) bool) bool {
	for _, x := range l {
		if !is(x) {
			return false
		}
	}
	return true
}

// toldDead is 1 of what is Dead.
func toldDead(dead bool) string {
	if dead {
		return "\x01"
	}
	return "\x00"
}

// toldHead is what an update and its meta begin with.
func toldHead(item api.Ver, s api.Stamp, p string) string {
	return nums(item.By, item.N, s.By, s.N, s.Time) + text(p)
}

func toldUpdate(u api.Update) string {
	return toldHead(u.Item, u.Stamp, u.Path) + text(u.Data) + toldDead(u.Dead)
}

func toldMeta(m api.Meta) string {
	return toldHead(m.Item, m.Stamp, m.Path) + num(m.Size) + toldDead(m.Dead)
}

func toldVer(v api.Ver) string {
	return nums(v.By, v.N)
}

func toldVec(v api.Vec) string {
	var l []string
	for by := 1; by <= 64; by++ {
		if v[by] > 0 {
			l = append(l, nums(by, v[by]))
		}
	}
	return list(l...)
}

func toldItems(l []api.Ver) string {
	return listOf(l, toldVer)
}

func toldFilter(f []api.Clause) string {
	return listOf(f, func(c api.Clause) string { return text(c.Prefix) + nums(c.Lo, c.Hi) })
}

func toldFrag(x api.Frag) string {
	return text(toldFilter(x.F)) + text(toldVec(x.V)) + text(toldItems(x.Not))
}

func toldKnown(x api.Known) string {
	return toldVer(x.Item) + text(toldVec(x.V))
}

func toldKnow(k api.Know) string {
	return text(listOf(k.Frags, toldFrag)) + text(listOf(k.Items, toldKnown))
}

func validVer(v api.Ver) bool {
	return 1 <= v.By && v.By <= 64 && 1 <= v.N && v.N <= 1<<63-1
}

func validPath(s string) bool {
	l := strings.Split(s, "/")
	return len(l) <= 6 && len(s) <= 40 && each(l, func(name string) bool {
		return nameForm.MatchString(name) && !onlyDots.MatchString(name)
	})
}

func validMeta(m api.Meta) bool {
	return validVer(m.Item) && validVer(m.Ver) && m.Time >= 1 && validPath(m.Path) && m.Size >= 0 && m.Size <= 200 && !(m.Dead && m.Size > 0)
}

func validUpdate(u api.Update) bool {
	return validMeta(api.Meta{Item: u.Item, Stamp: u.Stamp, Path: u.Path, Size: len(u.Data), Dead: u.Dead})
}

func validVec(v api.Vec) bool {
	return v[0] == 0 && each(v[1:], func(n int) bool { return n >= 0 })
}

func validItems(l []api.Ver) bool {
	for i := 1; i < len(l); i++ {
		a, b := l[i-1], l[i]
		if a.By > b.By || a.By == b.By && a.N >= b.N {
			return false
		}
	}
	return each(l, validVer)
}

func validFilter(f []api.Clause) bool {
	return len(f) <= 64 && each(f, func(c api.Clause) bool {
		return (c.Prefix == "" || validPath(c.Prefix)) && 0 <= c.Lo && c.Lo <= c.Hi && c.Hi <= 200
	})
}

func validFrag(x api.Frag) bool {
	return validFilter(x.F) && validVec(x.V) && validItems(x.Not)
}

func validKnown(x api.Known) bool {
	return validVer(x.Item) && validVec(x.V)
}

func validKnow(k api.Know) bool {
	return len(k.Frags) <= 64 && len(k.Items) <= 4096 && each(k.Frags, validFrag) && each(k.Items, validKnown)
}

// input is bytes that are read strictly, and whether something was met that nobody lays.
type input struct {
	s   string
	bad bool
}

// number reads a number that stands in as few bytes as there may be, and is at most the greatest one.
func (x *input) number() int {
	n, many := binary.Uvarint([]byte(x.s[:min(len(x.s), 10)]))
	if many <= 0 || n > math.MaxInt64 || len(num(int(n))) != many {
		x.s, x.bad = "", true
		return 0
	}
	x.s = x.s[many:]
	return int(n)
}

// text reads a text.
func (x *input) text() string {
	n := x.number()
	if n > len(x.s) {
		x.s, x.bad = "", true
		return ""
	}
	s := x.s[:n]
	x.s = x.s[n:]
	return s
}

// flag reads a number that is 0 or 1.
func (x *input) flag() bool {
	n := x.number()
	x.bad = x.bad || n > 1
	return n == 1
}

// within reads a text, and in it all of something.
func within[T any](x *input, read func(*input) T) T {
	y := &input{s: x.text()}
	v := read(y)
	x.bad = x.bad || y.bad || y.s != ""
	return v
}

// listIn reads a list of so many elements as it says.
func listIn[T any](read func(*input) T) func(*input) []T {
	return func(x *input) []T {
		var l []T
		for n := x.number(); n > 0 && !x.bad; n-- {
			l = append(l, within(x, read))
		}
		return l
	}
}

func verIn(x *input) api.Ver {
	by := x.number()
	return api.Ver{By: by, N: x.number()}
}

func metaIn(x *input) api.Meta {
	var m api.Meta
	m.Item = verIn(x)
	m.Ver = verIn(x)
	m.Time = x.number()
	m.Path = x.text()
	m.Size = x.number()
	m.Dead = x.flag()
	return m
}

func updateIn(x *input) api.Update {
	var u api.Update
	u.Item = verIn(x)
	u.Ver = verIn(x)
	u.Time = x.number()
	u.Path = x.text()
	u.Data = x.text()
	u.Dead = x.flag()
	return u
}

// vecIn reads a vector, whose versions are those that it has last, and rise.
func vecIn(x *input) api.Vec {
	var v api.Vec
	last := 0
	for _, y := range listIn(verIn)(x) {
		if !validVer(y) || y.By <= last {
			x.bad = true
			return v
		}
		last = y.By
		v[y.By] = y.N
	}
	return v
}

func clauseIn(x *input) api.Clause {
	var c api.Clause
	c.Prefix = x.text()
	c.Lo = x.number()
	c.Hi = x.number()
	return c
}

func fragIn(x *input) api.Frag {
	var y api.Frag
	y.F = within(x, listIn(clauseIn))
	y.V = within(x, vecIn)
	y.Not = within(x, listIn(verIn))
	return y
}

func knownIn(x *input) api.Known {
	y := api.Known{Item: verIn(x)}
	y.V = within(x, vecIn)
	return y
}

func knowIn(x *input) api.Know {
	var k api.Know
	k.Frags = within(x, listIn(fragIn))
	k.Items = within(x, listIn(knownIn))
	return k
}

func sameFrag(a, b api.Frag) bool {
	return slices.Equal(a.F, b.F) && a.V == b.V && slices.Equal(a.Not, b.Not)
}

func sameKnow(a, b api.Know) bool {
	return slices.EqualFunc(a.Frags, b.Frags, sameFrag) && slices.Equal(a.Items, b.Items)
}

func sameOne[T comparable](a, b T) bool {
	return a == b
}

func sameList[T comparable](a, b []T) bool {
	return slices.Equal(a, b)
}

// kind is what is laid and read by two calls, and what the document says of it.
type kind[T any] struct {
	name  string
	put   func(T) (string, api.Errno)
	get   func(string) (T, api.Errno)
	valid func(T) bool
	told  func(T) string
	read  func(*input) T
	same  func(a, b T) bool
}

func updates() kind[api.Update] {
	return kind[api.Update]{"Update", pack.PutUpdate, pack.GetUpdate, validUpdate, toldUpdate, updateIn, sameOne[api.Update]}
}

func metas() kind[api.Meta] {
	return kind[api.Meta]{"Meta", pack.PutMeta, pack.GetMeta, validMeta, toldMeta, metaIn, sameOne[api.Meta]}
}

func vectors() kind[api.Vec] {
	return kind[api.Vec]{"Vec", pack.PutVec, pack.GetVec, validVec, toldVec, vecIn, sameOne[api.Vec]}
}

func items() kind[[]api.Ver] {
	return kind[[]api.Ver]{"Items", pack.PutItems, pack.GetItems, validItems, toldItems, listIn(verIn), sameList[api.Ver]}
}

func filters() kind[[]api.Clause] {
	return kind[[]api.Clause]{"Filter", pack.PutFilter, pack.GetFilter, validFilter, toldFilter, listIn(clauseIn), sameList[api.Clause]}
}

func knowledge() kind[api.Know] {
	return kind[api.Know]{"Know", pack.PutKnow, pack.GetKnow, validKnow, toldKnow, knowIn, sameKnow}
}

// modelPut is what the document says of Put.
func (k kind[T]) modelPut(x T) (string, api.Errno) {
	if !k.valid(x) {
		return "", api.ErrArg
	}
	// A part that is too big makes all of it too big.
	if s := k.told(x); len(s) <= blob {
		return s, api.OK
	}
	return "", api.ErrBig
}

// modelGet is what the document says of Get.
func (k kind[T]) modelGet(s string) (T, api.Errno) {
	x := &input{s: s}
	if v := k.read(x); len(s) <= blob && !x.bad && x.s == "" && k.valid(v) {
		return v, api.OK
	}
	var none T
	return none, api.ErrForm
}

// brief is the beginning of a text that may be very long.
func brief(s string) string {
	return s[:min(len(s), 200)]
}

// putIs holds Put against the model, and Get of what Put laid; it tells the error.
func (k kind[T]) putIs(t *testing.T, x T) api.Errno {
	t.Helper()
	want, wantE := k.modelPut(x)
	// Twice, as it hangs on nothing that was asked ahead of it.
	for range 2 {
		if s, e := k.put(x); s != want || e != wantE {
			t.Errorf("Put%s(%.300v) = %x (%d bytes), %d, want %x (%d bytes), %d", k.name, x, brief(s), len(s), int(e), brief(want), len(want), int(wantE))
		}
	}
	if wantE != api.OK {
		return wantE
	}
	if y, e := k.get(want); e != api.OK || !k.same(x, y) {
		t.Errorf("Get%s(Put%s(%.300v)) = %.300v, %d", k.name, k.name, x, y, int(e))
	}
	return api.OK
}

// getIs holds Get against the model, and Put of what Get read; it tells the error.
func (k kind[T]) getIs(t *testing.T, s string) api.Errno {
	t.Helper()
	want, wantE := k.modelGet(s)
	for range 2 {
		if x, e := k.get(s); e != wantE || !k.same(x, want) {
			t.Errorf("Get%s(%x) = %.300v, %d, want %.300v, %d", k.name, brief(s), x, int(e), want, int(wantE))
		}
	}
	if wantE != api.OK {
		return wantE
	}
	if again, e := k.put(want); e != api.OK || again != s {
		t.Errorf("Put%s(Get%s(%x)) = %x, %d", k.name, k.name, brief(s), brief(again), int(e))
	}
	return api.OK
}

// isForm tells of bytes that Get reads, though the document says that nobody lays them.
func (k kind[T]) isForm(t *testing.T, l ...string) {
	t.Helper()
	for _, s := range l {
		if e := k.getIs(t, s); e != api.ErrForm {
			t.Errorf("the model's Get%s(%x) is %d", k.name, brief(s), int(e))
		}
	}
}

// isTold tells of something that is laid as other bytes than these.
func (k kind[T]) isTold(t *testing.T, x T, want string) {
	t.Helper()
	k.putIs(t, x)
	k.getIs(t, want)
	if s, e := k.put(x); s != want || e != api.OK {
		t.Errorf("Put%s(%v) = %x, %d, want %x", k.name, x, brief(s), int(e), brief(want))
	}
	if y, e := k.get(want); e != api.OK || !k.same(x, y) {
		t.Errorf("Get%s(%x) = %v, %d, want %v", k.name, brief(want), y, int(e), x)
	}
}

// isWrong tells of something that Put lays, or of which it tells another error.
func (k kind[T]) isWrong(t *testing.T, want api.Errno, l ...T) {
	t.Helper()
	for _, x := range l {
		k.putIs(t, x)
		if s, e := k.put(x); s != "" || e != want {
			t.Errorf("Put%s(%.300v) = %x, %d, want %d", k.name, x, brief(s), int(e), int(want))
		}
	}
}
