package path_test

import (
	"regexp"
	"slices"
	"strings"
	"testing"

	"lighterage/api"
	"lighterage/path"
)

var (
	nameForm = regexp.MustCompile(`\A[a-z0-9._-]{1,12}\z`)
	onlyDots = regexp.MustCompile(`\A\.*\z`)
)

// modelName is what the document says a name is.
func modelName(s string) bool { return nameForm.MatchString(s) && !onlyDots.MatchString(s) }

// modelNames is a path's names as the document says them.
func modelNames(s string) ([]string, api.Errno) {
	l := strings.Split(s, "/")
	if len(l) > 6 || len(s) > 40 || slices.ContainsFunc(l, func(n string) bool { return !modelName(n) }) {
		return nil, api.ErrPath
	}
	return l, api.OK
}

// modelJoin is a path of names as the document says it.
func modelJoin(l []string) (string, api.Errno) {
	s := strings.Join(l, "/")
	if _, e := modelNames(s); e != api.OK || slices.ContainsFunc(l, func(n string) bool { return !modelName(n) }) {
		return "", api.ErrPath
	}
	return s, api.OK
}

// modelCovers is what the document says of a prefix and what it covers.
func modelCovers(prefix, s string) bool {
	return prefix == "" || prefix == s || strings.HasPrefix(s, prefix+"/")
}

// modelMeet is what the document says of two texts that meet.
func modelMeet(a, b string) (string, bool) {
	switch {
	case modelCovers(a, b):
		return b, true
	case modelCovers(b, a):
		return a, true
	}
	return "", false
}

// modelParent is what stands ahead of the last /.
func modelParent(s string) string {
	l := strings.Split(s, "/")
	return strings.Join(l[:len(l)-1], "/")
}

// namesAre tells whether Names and Check of a text are what they should be.
func namesAre(t *testing.T, s string, want []string, err api.Errno) {
	t.Helper()
	// Twice, as they hang on nothing that was asked ahead of it.
	for range 2 {
		if l, e := path.Names(s); !slices.Equal(l, want) || e != err {
			t.Errorf("Names(%q) = %q, %d, want %q, %d", s, l, int(e), want, int(err))
		}
		if e := path.Check(s); e != err {
			t.Errorf("Check(%q) = %d, want %d", s, int(e), int(err))
		}
	}
}

// joinIs tells whether Join of names is what it should be.
func joinIs(t *testing.T, l []string, want string, err api.Errno) {
	t.Helper()
	for range 2 {
		if s, e := path.Join(l...); s != want || e != err {
			t.Errorf("Join(%q) = %q, %d, want %q, %d", l, s, int(e), want, int(err))
		}
	}
}

// textIs holds what is told of one text against the model.
func textIs(t *testing.T, s string) {
	t.Helper()
	l, e := modelNames(s)
	namesAre(t, s, l, e)
	if p := path.Parent(s); p != modelParent(s) {
		t.Errorf("Parent(%q) = %q, want %q", s, p, modelParent(s))
	}
}

// pairIs holds what is told of two texts against the model.
func pairIs(t *testing.T, a, b string) {
	t.Helper()
	if is := path.Covers(a, b); is != modelCovers(a, b) {
		t.Errorf("Covers(%q, %q) = %v", a, b, is)
	}
	s, is := path.Meet(a, b)
	if want, ok := modelMeet(a, b); s != want || is != ok {
		t.Errorf("Meet(%q, %q) = %q, %v, want %q, %v", a, b, s, is, want, ok)
	}
}

// texts are all texts of up to so many of the letters.
func texts(letters string, most int) []string {
	l := []string{""}
	for from := 0; most > 0; most-- {
		last := l[from:]
		from = len(l)
		for _, s := range last {
			for _, c := range letters {
				l = append(l, s+string(c))
			}
		}
	}
	return l
}
