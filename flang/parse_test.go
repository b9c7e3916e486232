package flang_test

import (
	"strings"
	"testing"

	"lighterage/api"
	"lighterage/flang"
)

// P11.2: texts of filters.
func TestParse(t *testing.T) {
	cases := []struct {
		s    string
		want []api.Clause
	}{
		{"!", nil},
		{"*", []api.Clause{clause("", 0, 200)}},
		{"a/b:3-4,*", []api.Clause{clause("a/b", 3, 4), clause("", 0, 200)}},
		{"doc:10-20,*:0-5,doc:0-3", []api.Clause{clause("doc", 10, 20), clause("", 0, 5), clause("doc", 0, 3)}},
		// All sizes may be written out.
		{"*:0-200", []api.Clause{clause("", 0, 200)}},
		{"a:0-200", []api.Clause{clause("a", 0, 200)}},
		{"a:0-200,a,*:0-200", []api.Clause{clause("a", 0, 200), clause("a", 0, 200), clause("", 0, 200)}},
		{"a:0-0,a:200-200", []api.Clause{clause("a", 0, 0), clause("a", 200, 200)}},
		// A - may be a name, and within one.
		{"-", []api.Clause{clause("-", 0, 200)}},
		{"-:0-1", []api.Clause{clause("-", 0, 1)}},
		{"3-4", []api.Clause{clause("3-4", 0, 200)}},
		{"3-4:5-6", []api.Clause{clause("3-4", 5, 6)}},
		{"0,1,2,3,4,5,6,7", []api.Clause{clause("0", 0, 200), clause("1", 0, 200), clause("2", 0, 200), clause("3", 0, 200),
			clause("4", 0, 200), clause("5", 0, 200), clause("6", 0, 200), clause("7", 0, 200)}},
		{"a/b/c/d/e/f:9-10", []api.Clause{clause("a/b/c/d/e/f", 9, 10)}},
	}
	for _, c := range cases {
		parseIs(t, c.s, c.want, api.OK)
		textIs(t, c.s)
	}
}

// P11.2: texts that are not those of filters, and those of filters that may not be.
func TestParseWrong(t *testing.T) {
	cases := []string{
		// Clauses that are missing.
		"", ",", ",,", "a,", ",a", "a,,b", "*,", ",*", "a:0-5,", "a;b", "a, b", "a,b\n", "a b",
		// A ! stands alone.
		"!!", "!,", ",!", "!,!", "!,a", "a,!", "!a", "a!", "!:0-5", "*!", "! ", " !", "!\n",
		// A * stands alone for a prefix.
		"**", "*a", "a*", "*/a", "a/*", "/*", "* ", " *", "**:0-5",
		// Ranges without a prefix, or without ends.
		":", ":0-5", "::", "a:", "*:", "a:-", "a:3", "a:3-", "a:-3", "a::", "a::3-4", "a:3-4:", "a:3-4:5-6", "a:3:4",
		"a:3-4-5", "a:3--4", "a:-3-4", "a:--", "a:3-4-", "a:3-4 ", "a:3- 4", "a: 3-4", "a :3-4", "a:3 -4", "a:3_4", "a:3..4", "a:*", "a:!",
		// Numbers otherwise than in digits without zeros ahead.
		"doc:1-02", "doc:01-2", "a:00-5", "a:0-00", "a:0-05", "a:000-200", "a:0-0200", "a:+0-5", "a:0-+5", "a:-0-5", "a:0--0",
		"a:0x1-5", "a:0-0x5", "a:0-1e1", "a:0-1_0", "a:0b1-5", "a:0.0-5", "a:a-b", "a:0-\u0665", "a:0-\uff15", "a:0-5\x00", "a:0-\xff",
		// Ranges that may not be, also of numbers that wrap round to such as may.
		"a:0-201", "a:201-201", "a:5-4", "a:200-0", "a:0-999", "a:1000-2000", "a:0-4294967301", "a:4294967296-5",
		"a:0-18446744073709551621", "a:18446744073709551616-5", "a:0-9223372036854775807", "a:0-9223372036854775808",
		"a:-9223372036854775808-5", "a:0--18446744073709551611", "a:0-1" + strings.Repeat("0", 500),
		// Prefixes that are none.
		"A", "a/", "/", "/a", "a//b", ".", "a/..", "a~", "a\\b", "\x00", "\xff", "ä", "abcdefghijklm", "a/b/c/d/e/f/g", "A:0-5", "a/:0-5",
		"abcdefghijkl/abcdefghijkl/abcdefghijkl/zz",
		// One fault among clauses that may be.
		"a,b,c:5-4", "a:5-4,b,c", "a,B,c", "a,b:3,c", "a:0-5,*a,b",
		// More clauses than there may be.
		"0,1,2,3,4,5,6,7,8", "a,a,a,a,a,a,a,a,a", "*:0-5" + strings.Repeat(",*:0-5", 8),
	}
	for _, s := range cases {
		parseIs(t, s, nil, api.ErrFilter)
		plainIs(t, s, "", api.ErrFilter)
		textIs(t, s)
	}
}

// P11.2: more bytes than there may be are told ahead of what is in them.
func TestParseBig(t *testing.T) {
	for _, one := range []string{"a", "*", ",", "!", "a,", "*:0-5,", "abcdefghi/", ":0-5", "0", "-", "\xff", " ", "\x00"} {
		for n := 500; n < 530; n++ {
			s := strings.Repeat(one, n)[:n]
			want := api.ErrFilter
			if n > 512 {
				want = api.ErrBig
			}
			parseIs(t, s, nil, want)
			plainIs(t, s, "", want)
		}
	}
	for _, s := range []string{strings.Repeat("a", 1<<24), strings.Repeat("a,", 1<<23), strings.Repeat(",", 1<<24), strings.Repeat("*:0-5,", 1<<20)} {
		if f, e := flang.Parse(s); len(f) != 0 || e != api.ErrBig {
			t.Errorf("Parse of %d bytes = %d clauses, %d", len(s), len(f), int(e))
		}
		if p, e := flang.Plain(s); p != "" || e != api.ErrBig {
			t.Errorf("Plain of %d bytes = %q, %d", len(s), p, int(e))
		}
	}
}

// P11.2: all texts of a few letters.
func TestTexts(t *testing.T) {
	letters := "a0!*,:-/1"
	l := []string{""}
	for from, n := 0, 0; n < 6; n++ {
		last := l[from:]
		from = len(l)
		for _, s := range last {
			for _, c := range letters {
				l = append(l, s+string(c))
			}
		}
	}
	filters := 0
	for _, s := range l {
		want, err := modelParse(s)
		if err == api.OK {
			filters++
		}
		parseIs(t, s, want, err)
	}
	if filters < 1000 {
		t.Errorf("of %d texts %d are of filters", len(l), filters)
	}
}

// P11.2: texts that are nearly those of filters: another byte, one more, or one less, at each place.
func TestNearly(t *testing.T) {
	for _, s := range []string{"!", "*", "a/b:3-4,*", "doc:10-20,*:0-5,doc:0-3", "*:0-200", "-:0-1,3-4:5-6", "a,b,c,d,e,f,g,h"} {
		for i := range len(s) + 1 {
			for c := range 256 {
				b := string([]byte{byte(c)})
				textIs(t, s[:i]+b+s[i:])
				if i < len(s) {
					textIs(t, s[:i]+b+s[i+1:])
				}
			}
			textIs(t, s[:i])
			textIs(t, s[i:])
			if i < len(s) {
				textIs(t, s[:i]+s[i+1:])
			}
		}
	}
}
