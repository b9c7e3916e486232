package flang_test

import (
	"fmt"
	"math"
	"regexp"
	"slices"
	"strconv"
	"strings"
	"testing"

	"lighterage/api"
	"lighterage/flang"
)

const (
	least = math.MinInt
	most  = math.MaxInt
)

var (
	clauseForm = regexp.MustCompile(`\A(\*|[a-z0-9._/-]+)(?::(0|[1-9][0-9]*)-(0|[1-9][0-9]*))?\z`)
	nameForm   = regexp.MustCompile(`\A[a-z0-9._-]{1,12}\z`)
	onlyDots   = regexp.MustCompile(`\A\.*\z`)
)

// modelPrefix is what the document says a prefix is.
func modelPrefix(s string) bool {
	l := strings.Split(s, "/")
	return s == "" || len(s) <= 40 && len(l) <= 6 && !slices.ContainsFunc(l, func(n string) bool {
		return !nameForm.MatchString(n) || onlyDots.MatchString(n)
	})
}

// modelCheck is the first fault of a filter.
func modelCheck(f []api.Clause) api.Errno {
	if len(f) > 8 {
		return api.ErrBig
	}
	for _, c := range f {
		if !modelPrefix(c.Prefix) {
			return api.ErrPath
		}
		if c.Lo < 0 || c.Hi > 200 || c.Lo > c.Hi {
			return api.ErrArg
		}
	}
	return api.OK
}

// modelPrint is the text of a filter as the document says it.
func modelPrint(f []api.Clause) (string, api.Errno) {
	if e := modelCheck(f); e != api.OK {
		return "", e
	}
	s := ""
	for _, c := range f {
		s += ","
		if c.Prefix == "" {
			s += "*"
		}
		s += c.Prefix
		if c.Lo != 0 || c.Hi != 200 {
			s += fmt.Sprintf(":%d-%d", c.Lo, c.Hi)
		}
	}
	if s == "" {
		return "!", api.OK
	}
	return s[1:], api.OK
}

// modelParse is the filter of a text as the document says it.
func modelParse(s string) ([]api.Clause, api.Errno) {
	if len(s) > 512 {
		return nil, api.ErrBig
	}
	if s == "!" {
		return nil, api.OK
	}
	var f []api.Clause
	for _, one := range strings.Split(s, ",") {
		m := clauseForm.FindStringSubmatch(one)
		if m == nil {
			return nil, api.ErrFilter
		}
		c := clause(m[1], 0, 200)
		if m[1] == "*" {
			c.Prefix = ""
		}
		if m[2] != "" {
			c.Lo, c.Hi = modelNumber(m[2]), modelNumber(m[3])
		}
		f = append(f, c)
	}
	if modelCheck(f) != api.OK {
		return nil, api.ErrFilter
	}
	return f, api.OK
}

// modelNumber is the number of digits, or one that is too great for a range.
func modelNumber(s string) int {
	n, err := strconv.Atoi(s)
	if err != nil {
		return most
	}
	return n
}

// modelPlain is the plain text of a text as the document says it.
func modelPlain(s string) (string, api.Errno) {
	f, e := modelParse(s)
	if e != api.OK {
		return "", e
	}
	if n := modelNorm(f); len(n) <= 8 {
		return modelPrint(n)
	}
	return modelPrint(f)
}

// model is of each size whether a filter has it at a path.
type model [201]bool

// modelSizes is of which sizes a filter has clauses at a path.
func modelSizes(f []api.Clause, p string) model {
	var m model
	for _, c := range f {
		if c.Prefix != "" && c.Prefix != p && !strings.HasPrefix(p, c.Prefix+"/") {
			continue
		}
		for n := c.Lo; n <= c.Hi; n++ {
			m[n] = true
		}
	}
	return m
}

// modelNorm is the normal form of a filter that is valid, as the document says it.
func modelNorm(f []api.Clause) []api.Clause {
	var prefixes []string
	for _, c := range f {
		prefixes = append(prefixes, c.Prefix)
	}
	slices.Sort(prefixes)
	var l []api.Clause
	for _, p := range slices.Compact(prefixes) {
		m := modelSizes(f, p)
		if p != "" {
			// Where no clause has the prefix right above, it has the sizes of the nearest one above that a clause has.
			up := p[:max(strings.LastIndex(p, "/"), 0)]
			for n, has := range modelSizes(f, up) {
				m[n] = m[n] && !has
			}
		}
		for n := 0; n < len(m); n++ {
			if !m[n] {
				continue
			}
			lo := n
			for n+1 < len(m) && m[n+1] {
				n++
			}
			l = append(l, clause(p, lo, n))
		}
	}
	return l
}

// modelSame tells whether two filters have the same sizes everywhere: at their own prefixes, and at "".
func modelSame(f, g []api.Clause) bool {
	for _, c := range slices.Concat(f, g, []api.Clause{clause("", 0, 0)}) {
		if modelSizes(f, c.Prefix) != modelSizes(g, c.Prefix) {
			return false
		}
	}
	return true
}

// clause is a prefix and a range in one.
func clause(p string, lo, hi int) api.Clause {
	return api.Clause{Prefix: p, Range: api.Range{Lo: lo, Hi: hi}}
}

// all are the clauses of all prefixes and all ranges of some.
func all(prefixes []string, ranges ...api.Range) []api.Clause {
	var l []api.Clause
	for _, p := range prefixes {
		for _, r := range ranges {
			l = append(l, api.Clause{Prefix: p, Range: r})
		}
	}
	return l
}

// printIs tells whether Print of a filter is what it should be.
func printIs(t *testing.T, f []api.Clause, want string, err api.Errno) {
	t.Helper()
	// Twice, as it hangs on nothing that was asked ahead of it.
	for range 2 {
		if s, e := flang.Print(f); s != want || e != err {
			t.Errorf("Print(%v) = %q, %d, want %q, %d", f, s, int(e), want, int(err))
		}
	}
}

// parseIs tells whether Parse of a text is what it should be.
func parseIs(t *testing.T, s string, want []api.Clause, err api.Errno) {
	t.Helper()
	for range 2 {
		if f, e := flang.Parse(s); !slices.Equal(f, want) || e != err {
			t.Errorf("Parse(%.600q) = %v, %d, want %v, %d", s, f, int(e), want, int(err))
		}
	}
}

// plainIs tells whether Plain of a text is what it should be.
func plainIs(t *testing.T, s, want string, err api.Errno) {
	t.Helper()
	for range 2 {
		if p, e := flang.Plain(s); p != want || e != err {
			t.Errorf("Plain(%.600q) = %q, %d, want %q, %d", s, p, int(e), want, int(err))
		}
	}
}

// filterIs holds what is told of a filter against the model, and that it comes back.
func filterIs(t *testing.T, f []api.Clause) {
	t.Helper()
	s, e := modelPrint(f)
	printIs(t, f, s, e)
	if e == api.OK {
		parseIs(t, s, f, api.OK)
	}
}

// textIs holds what is told of a text against the model.
func textIs(t *testing.T, s string) {
	t.Helper()
	f, e := modelParse(s)
	parseIs(t, s, f, e)
	p, e := modelPlain(s)
	plainIs(t, s, p, e)
}
