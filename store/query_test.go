package store_test

import (
	"slices"
	"testing"

	"lighterage/api"
	"lighterage/store"
)

// P6.3: the values that there are, empty ones too, and no others.
func TestGet(t *testing.T) {
	p := made(t, 200, most)
	p.do(put("a", "1"), put("b", ""), put("ab", "\x00"), put(text(32), text(4096)), gone("c"))
	for _, c := range []struct {
		key, s string
		is     bool
	}{
		{"a", "1", true}, {"b", "", true}, {"ab", "\x00", true}, {text(32), text(4096), true},
		{"c", "", false}, {"", "", false}, {"A", "", false}, {"a\x00", "", false}, {"abc", "", false}, {text(31), "", false}, {text(33), "", false}, {text(5000), "", false},
	} {
		if s, is := p.s.Get(c.key); s != c.s || is != c.is {
			t.Errorf("Get(%q) = %q, %t", c.key, s, is)
		}
	}
	p.do(gone("a"))
	if s, is := p.s.Get("a"); s != "" || is {
		t.Errorf("Get of what is gone = %q, %t", s, is)
	}
}

// P6.3: keys that begin so, by rising bytes, however they came.
func TestKeys(t *testing.T) {
	all := []string{"\x00", "A", "a", "a\x00", "a/", "a/b", "a/b/c", "aa", "b", "z", "\xc3", "\xc3\xa4", "\xff", "\xff\xff"}
	p := made(t, 50, most)
	for i := range all {
		p.do(put(all[(i*5+3)%len(all)], "x"))
	}
	for _, c := range []struct {
		prefix string
		want   []string
	}{
		{"", all}, {"a", all[2:8]}, {"a/", all[4:7]}, {"a/b", all[5:7]}, {"a/b/c", all[6:7]}, {"a/b/c/", nil}, {"\x00", all[:1]},
		{"aaa", nil}, {"0", nil}, {"~", nil}, {"\xc3", all[10:12]}, {"\xc3\xa4", all[11:12]}, {"\xff", all[12:]}, {"\xff\xff\xff", nil}, {text(5000), nil},
	} {
		if l := p.s.Keys(c.prefix); !slices.Equal(l, c.want) {
			t.Errorf("Keys(%q) = %q, want %q", c.prefix, l, c.want)
		}
	}
}

// P6.3, R3: each list is its caller's own.
func TestKeysApart(t *testing.T) {
	p := made(t, 20, most)
	p.do(put("a", "1"), put("b", "2"))
	l, other := p.s.Keys(""), p.s.Keys("")
	clear(l)
	_ = append(l[:0], "x", "y")
	if !slices.Equal(other, []string{"a", "b"}) {
		t.Errorf("Keys = %q", other)
	}
	p.alike("behind Keys")
}

// P6.3: how many values, and how many bytes, there are, as they come and go; an empty store has none.
func TestNumbers(t *testing.T) {
	p := made(t, 50, 77)
	for _, c := range []struct {
		l          []store.Change
		len, bytes int
	}{
		{[]store.Change{gone("a")}, 0, 0},
		{[]store.Change{put("a", "")}, 1, 1},
		{[]store.Change{put("a", "123")}, 1, 4},
		{[]store.Change{put("a", "12"), put("bb", "1")}, 2, 6},
		{[]store.Change{put("a", "12")}, 2, 6},
		{[]store.Change{gone("bb"), put("ccc", text(60))}, 2, 66},
		{[]store.Change{gone("a"), gone("a"), gone("ccc")}, 0, 0},
	} {
		err(t, "Do", p.do(c.l...), api.OK)
		for _, s := range []*store.Store{p.s, p.again().s} {
			if s.Len() != c.len || s.Bytes() != c.bytes || s.Quota() != 77 || s.Broken() {
				t.Errorf("Len %d, Bytes %d, Quota %d, Broken %t, want %d, %d", s.Len(), s.Bytes(), s.Quota(), s.Broken(), c.len, c.bytes)
			}
		}
	}
}

// P6.2, P6.3: of a store that is nil.
func TestNil(t *testing.T) {
	var s *store.Store
	for _, l := range append(wrongLists(), []store.Change{put("a", "1")}, []store.Change{put("a", text(4000))}) {
		err(t, "Check of nil", s.Check(l...), api.ErrNil)
		err(t, "Do of nil", s.Do(l...), api.ErrNil)
	}
	for _, key := range []string{"", "a"} {
		if x, is := s.Get(key); x != "" || is || len(s.Keys(key)) != 0 {
			t.Errorf("nil: Get %q, %t, Keys %q", x, is, s.Keys(key))
		}
	}
	if s.Bytes() != 0 || s.Quota() != 0 || s.Len() != 0 || !s.Broken() {
		t.Errorf("nil: %d, %d, %d, %t", s.Bytes(), s.Quota(), s.Len(), s.Broken())
	}
}

// P6.3, R4: what one store has another one has not.
func TestApart(t *testing.T) {
	p, q := made(t, 20, 100), made(t, 20, 100)
	p.do(put("a", "1"))
	q.do(put("b", "2"))
	p.do(gone("b"), put("c", "3"))
	q.do(gone("a"))
	p.has("one", []store.Change{put("a", "1"), put("c", "3")})
	q.has("the other", []store.Change{put("b", "2")})
}
