package msg_test

import (
	"encoding/binary"
	"fmt"
	"hash/crc32"
	"math"
	"reflect"
	"slices"
	"strings"
	"testing"

	"lighterage/api"
	"lighterage/frame"
	"lighterage/msg"
	"lighterage/pack"
)

const (
	least = math.MinInt
	most  = math.MaxInt
	blob  = 1 << 16 // bytes that may be laid
)

// num is a number's bytes.
func num(n int) string {
	return string(binary.AppendUvarint(nil, uint64(n)))
}

// text is a text's bytes.
func text(s string) string {
	return num(len(s)) + s
}

// nums are the bytes of numbers.
func nums(l ...int) string {
	s := ""
	for _, n := range l {
		s += num(n)
	}
	return s
}

// record is a record of bytes, with its sum.
func record(body string) string {
	sum := crc32.Checksum([]byte(body), crc32.MakeTable(crc32.Castagnoli))
	return text(body) + string(binary.LittleEndian.AppendUint32(nil, sum))
}

// toldFlag is 1 of what is so.
func toldFlag(is bool) string {
	if is {
		return "\x01"
	}
	return "\x00"
}

func toldSid(s api.Sid) string {
	return nums(s.By, s.Epoch, s.N)
}

func toldPair(p api.Pair) string {
	return nums(p.Item.By, p.Item.N, p.Ver.By, p.Ver.N)
}

// packed is the text that pack lays of something; of what is too big there, a text that is too big.
func packed[T any](put func(T) (string, api.Errno), x T) string {
	s, e := put(x)
	if e == api.ErrBig {
		s = strings.Repeat("?", blob+1)
	}
	return text(s)
}

func toldEntry(e api.Entry) string {
	s := num(e.Kind)
	switch e.Kind {
	case 1:
		s += packed(pack.PutUpdate, e.U)
	case 2:
		s += packed(pack.PutMeta, e.M)
	case 3:
		s += toldPair(e.Out)
	}
	return s
}

// told is a message's body.
func told(m api.Msg) string {
	s := num(m.Kind) + toldSid(m.Sid)
	switch m.Kind {
	case 1:
		s += toldFlag(m.Up) + packed(pack.PutFilter, m.F) + packed(pack.PutKnow, m.K) + num(len(m.Held))
		for _, p := range m.Held {
			s += toldPair(p)
		}
	case 2:
		s += toldSid(m.Rid) + num(m.Seq) + toldFlag(m.Last) + num(len(m.Entries))
		for _, e := range m.Entries {
			s += toldEntry(e)
		}
		s += packed(pack.PutVec, m.V) + packed(pack.PutVec, m.A) + packed(pack.PutItems, m.Not)
	case 3:
		s += toldSid(m.Rid)
	case 4:
		s += num(m.Code)
	}
	return s
}

// each tells whether all of a list are so.
func each[T any](l []T, is func(T) bool) bool {
	for _, x := range l {
		if !is(x) {
			return false
		}
	}
	return true
}

// isOf tells whether pack says that something may be.
func isOf[T any](put func(T) (string, api.Errno), x T) bool {
	_, e := put(x)
	return e == api.OK || e == api.ErrBig
}

func validVer(v api.Ver) bool {
	return 1 <= v.By && v.By <= 64 && 1 <= v.N && v.N <= 1<<63-1
}

func validPair(p api.Pair) bool {
	return validVer(p.Item) && validVer(p.Ver)
}

func validSid(s api.Sid) bool {
	return 1 <= s.By && s.By <= 64 && 1 <= s.Epoch && 1 <= s.N
}

func validEntry(e api.Entry) bool {
	noU, noM, noOut := e.U == api.Update{}, e.M == api.Meta{}, e.Out == api.Pair{}
	switch e.Kind {
	case 1:
		return isOf(pack.PutUpdate, e.U) && noM && noOut
	case 2:
		return noU && isOf(pack.PutMeta, e.M) && noOut
	case 3:
		return noU && noM && validPair(e.Out)
	}
	return false
}

// rises tells whether the items of pairs rise, each one there once.
func rises(l []api.Pair) bool {
	for i := range l {
		for _, p := range l[:i] {
			a, b := p.Item, l[i].Item
			if a.By > b.By || a.By == b.By && a.N >= b.N {
				return false
			}
		}
	}
	return true
}

func validMsg(m api.Msg) bool {
	is := false
	// What is left, if all fields of its kind are taken away.
	rest := m
	rest.Kind, rest.Sid = 0, api.Sid{}
	switch m.Kind {
	case 1:
		is = isOf(pack.PutFilter, m.F) && isOf(pack.PutKnow, m.K) && len(m.Held) <= 256 && each(m.Held, validPair) && rises(m.Held)
		rest.Up, rest.F, rest.K, rest.Held = false, nil, api.Know{}, nil
	case 2:
		is = validSid(m.Rid) && 0 <= m.Seq && m.Seq <= 1048576 && len(m.Entries) <= 256 && each(m.Entries, validEntry) &&
			isOf(pack.PutVec, m.V) && isOf(pack.PutVec, m.A) && isOf(pack.PutItems, m.Not)
		rest.Rid, rest.Seq, rest.Last, rest.Entries, rest.V, rest.A, rest.Not = api.Sid{}, 0, false, nil, api.Vec{}, api.Vec{}, nil
	case 3:
		is = validSid(m.Rid)
		rest.Rid = api.Sid{}
	case 4:
		is = 1 <= m.Code && m.Code <= 100
		rest.Code = 0
	}
	return is && validSid(m.Sid) && same(rest, api.Msg{})
}

// orNil is a list, or nil if it has nothing.
func orNil[T any](l []T) []T {
	if len(l) == 0 {
		return nil
	}
	return l
}

// plain is a message whose lists without elements are all nil.
func plain(m api.Msg) api.Msg {
	m.F, m.Held, m.Entries, m.Not = orNil(m.F), orNil(m.Held), orNil(m.Entries), orNil(m.Not)
	m.K.Items = orNil(m.K.Items)
	m.K.Frags = slices.Clone(orNil(m.K.Frags))
	for i, x := range m.K.Frags {
		m.K.Frags[i].F, m.K.Frags[i].Not = orNil(x.F), orNil(x.Not)
	}
	return m
}

// same tells whether two messages are equal in all that they have.
func same(a, b api.Msg) bool {
	return reflect.DeepEqual(plain(a), plain(b))
}

// input is bytes that are read strictly, and whether something was met that nobody lays.
type input struct {
	s   string
	bad bool
}

// number reads a number that stands in as few bytes as there may be, and is at most the greatest one.
func (x *input) number() int {
	n, many := binary.Uvarint([]byte(x.s[:min(len(x.s), 10)]))
	if many <= 0 || n > math.MaxInt64 || len(num(int(n))) != many {
		x.s, x.bad = "", true
		return 0
	}
	x.s = x.s[many:]
	return int(n)
}

// text reads a text.
func (x *input) text() string {
	n := x.number()
	if n > len(x.s) {
		x.s, x.bad = "", true
		return ""
	}
	s := x.s[:n]
	x.s = x.s[n:]
	return s
}

// flag reads a number that is 0 or 1.
func (x *input) flag() bool {
	n := x.number()
	x.bad = x.bad || n > 1
	return n == 1
}

func (x *input) ver() api.Ver {
	by := x.number()
	return api.Ver{By: by, N: x.number()}
}

func (x *input) pair() api.Pair {
	item := x.ver()
	return api.Pair{Item: item, Ver: x.ver()}
}

func (x *input) sid() api.Sid {
	var s api.Sid
	s.By = x.number()
	s.Epoch = x.number()
	s.N = x.number()
	return s
}

// part reads a text, and what pack reads of it.
func part[T any](x *input, get func(string) (T, api.Errno)) T {
	y, e := get(x.text())
	x.bad = x.bad || e != api.OK
	return y
}

// listIn reads a list of so many elements as it says.
func listIn[T any](x *input, read func() T) []T {
	var l []T
	for n := x.number(); n > 0 && !x.bad; n-- {
		l = append(l, read())
	}
	return l
}

func (x *input) entry() api.Entry {
	e := api.Entry{Kind: x.number()}
	switch e.Kind {
	case 1:
		e.U = part(x, pack.GetUpdate)
	case 2:
		e.M = part(x, pack.GetMeta)
	case 3:
		e.Out = x.pair()
	default:
		x.bad = true
	}
	return e
}

func (x *input) msg() api.Msg {
	var m api.Msg
	m.Kind = x.number()
	m.Sid = x.sid()
	switch m.Kind {
	case 1:
		m.Up = x.flag()
		m.F = part(x, pack.GetFilter)
		m.K = part(x, pack.GetKnow)
		m.Held = listIn(x, x.pair)
	case 2:
		m.Rid = x.sid()
		m.Seq = x.number()
		m.Last = x.flag()
		m.Entries = listIn(x, x.entry)
		m.V = part(x, pack.GetVec)
		m.A = part(x, pack.GetVec)
		m.Not = part(x, pack.GetItems)
	case 3:
		m.Rid = x.sid()
	case 4:
		m.Code = x.number()
	}
	return m
}

// modelCheck is what the document says of Check.
func modelCheck(m api.Msg) api.Errno {
	if validMsg(m) {
		return api.OK
	}
	return api.ErrArg
}

// modelPut is what the document says of Put.
func modelPut(m api.Msg) (string, api.Errno) {
	if !validMsg(m) {
		return "", api.ErrArg
	}
	if s := record(told(m)); len(s) <= blob {
		return s, api.OK
	}
	return "", api.ErrBig
}

// modelGet is what the document says of Get.
func modelGet(s string) (api.Msg, api.Errno) {
	body, n, e := frame.First(s)
	if e != api.OK {
		return api.Msg{}, e
	}
	x := &input{s: body}
	// What Put does not lay is refused, if it is only too long, too.
	if m := x.msg(); n == len(s) && len(s) <= blob && !x.bad && x.s == "" && validMsg(m) {
		return m, api.OK
	}
	return api.Msg{}, api.ErrForm
}

// modelSize is what the document says of Size.
func modelSize(e api.Entry) int {
	if validEntry(e) {
		return len(toldEntry(e))
	}
	return 0
}

// brief is the beginning of a text that may be very long.
func brief(s string) string {
	return s[:min(len(s), 200)]
}

// shown is the beginning of what a message, or a part of it, looks like.
func shown(x any) string {
	return brief(fmt.Sprint(x))
}

// putIs holds Check and Put against the model, and Get of what Put laid; it tells the error.
func putIs(t *testing.T, m api.Msg) api.Errno {
	t.Helper()
	check := modelCheck(m)
	want, wantE := modelPut(m)
	// Twice, as it hangs on nothing that was asked ahead of it.
	for range 2 {
		if e := msg.Check(m); e != check {
			t.Errorf("Check(%s) = %d, want %d", shown(m), int(e), int(check))
		}
		if s, e := msg.Put(m); s != want || e != wantE {
			t.Errorf("Put(%s) = %x (%d bytes), %d, want %x (%d bytes), %d", shown(m), brief(s), len(s), int(e), brief(want), len(want), int(wantE))
		}
	}
	if wantE != api.OK {
		return wantE
	}
	if x, e := msg.Get(want); e != api.OK || !same(x, m) || !msg.Same(x, m) {
		t.Errorf("Get(Put(%s)) = %s, %d", shown(m), shown(x), int(e))
	}
	return api.OK
}

// getIs holds Get against the model, and Put of what Get read; it tells the error.
func getIs(t *testing.T, s string) api.Errno {
	t.Helper()
	want, wantE := modelGet(s)
	for range 2 {
		if m, e := msg.Get(s); e != wantE || !same(m, want) {
			t.Errorf("Get(%x) = %s, %d, want %s, %d", brief(s), shown(m), int(e), shown(want), int(wantE))
		}
	}
	if wantE != api.OK {
		return wantE
	}
	if again, e := msg.Put(want); e != api.OK || again != s {
		t.Errorf("Put(Get(%x)) = %x, %d", brief(s), brief(again), int(e))
	}
	return api.OK
}

// sizeIs holds Size against the model, and against what an entry adds to a message.
func sizeIs(t *testing.T, e api.Entry) {
	t.Helper()
	want := modelSize(e)
	for range 2 {
		if n := msg.Size(e); n != want {
			t.Errorf("Size(%s) = %d, want %d", shown(e), n, want)
		}
	}
	if want == 0 {
		return
	}
	// So that in all three as many bytes tell how long the body is.
	m := filled(200)
	without, _ := msg.Put(m)
	m.Entries = append(m.Entries, e)
	if with, x := msg.Put(m); x != api.OK || len(with)-len(without) != want {
		t.Errorf("%s: %d and %d bytes, want %d more, %d", shown(e), len(without), len(with), want, int(x))
	}
}

// isTold tells of a message that has another body than this.
func isTold(t *testing.T, m api.Msg, body string) {
	t.Helper()
	putIs(t, m)
	getIs(t, record(body))
	if s, e := msg.Put(m); s != record(body) || e != api.OK {
		t.Errorf("Put(%s) = %x, %d, want the body %x", shown(m), brief(s), int(e), body)
	}
	if x, e := msg.Get(record(body)); e != api.OK || !same(x, m) {
		t.Errorf("Get of the body %x = %s, %d, want %s", body, shown(x), int(e), shown(m))
	}
}

// isWrong tells of a message of which Put does not tell this error, or Check another one than the document says.
func isWrong(t *testing.T, want api.Errno, l ...api.Msg) {
	t.Helper()
	for _, m := range l {
		putIs(t, m)
		if s, e := msg.Put(m); s != "" || e != want {
			t.Errorf("Put(%s) = %x, %d, want %d", shown(m), brief(s), int(e), int(want))
		}
		if e := msg.Check(m); (e == api.ErrArg) != (want == api.ErrArg) {
			t.Errorf("Check(%s) = %d, though Put is %d", shown(m), int(e), int(want))
		}
	}
}

// isRefused tells of bytes of which Get does not tell this error.
func isRefused(t *testing.T, want api.Errno, l ...string) {
	t.Helper()
	for _, s := range l {
		getIs(t, s)
		if m, e := msg.Get(s); e != want || !same(m, api.Msg{}) {
			t.Errorf("Get(%x) = %s, %d, want %d", brief(s), shown(m), int(e), int(want))
		}
	}
}

// isNoBody tells of bodies that Get reads.
func isNoBody(t *testing.T, l ...string) {
	t.Helper()
	for _, body := range l {
		isRefused(t, api.ErrForm, record(body))
	}
}
