package store

import (
	"maps"
	"slices"
	"strings"

	"lighterage/frame"
)

// value is a value, and how many bytes it has in a journal that is rewritten.
type value struct {
	s    string
	laid int
}

// values are values by their keys, how many bytes all of these have, and how many in a journal that is rewritten.
type values struct {
	by          map[string]value
	bytes, laid int
}

// behind tells what is there behind changes; the values themselves stay as they are.
func (v values) behind(l []Change) values {
	v.by = maps.Clone(v.by)
	v.do(l)
	return v
}

// do does changes in their order.
func (v *values) do(l []Change) {
	for _, c := range l {
		v.remove(c.Key)
		if !c.Gone {
			v.add(c)
		}
	}
}

// remove takes a value out, if there is one.
func (v *values) remove(key string) {
	x, ok := v.by[key]
	if !ok {
		return
	}
	v.bytes -= len(key) + len(x.s)
	v.laid -= x.laid
	delete(v.by, key)
}

// add puts a value where there is none.
func (v *values) add(c Change) {
	// Copies, as nothing that is handed in is kept.
	key, x := strings.Clone(c.Key), value{s: strings.Clone(c.S), laid: frame.Size(alone(c))}
	v.by[key] = x
	v.bytes += len(key) + len(x.s)
	v.laid += x.laid
}

// keys tells the keys that begin so, in their order.
func (v values) keys(prefix string) []string {
	var l []string
	for key := range v.by {
		if strings.HasPrefix(key, prefix) {
			l = append(l, key)
		}
	}
	slices.Sort(l)
	return l
}

// records tells what a journal that is rewritten has.
func (v values) records() []string {
	recordOf := v.recorder()
	var l []string
	for _, key := range v.keys("") {
		l = append(l, recordOf(key))
	}
	return l
}

// recorder makes the function that tells the record of a key's value.
func (v values) recorder() func(string) string {
	return func(key string) string { return alone(Change{Key: key, S: v.by[key].s}) }
}

// alone lays one change as a record.
func alone(c Change) string {
	// No error can come, as a valid change has few bytes.
	s, _ := record(c)
	return s
}
