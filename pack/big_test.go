package pack_test

import (
	"slices"
	"strings"
	"testing"

	"lighterage/api"
	"lighterage/pack"
)

// element is a version whose element in a list of items takes so many bytes, from 3 to 11: the i-th one of these.
func element(bytes, i int) api.Ver {
	least := 1
	if bytes > 3 {
		least = 1 << (7 * (bytes - 3))
	}
	return ver(1, least+i)
}

// itemsOf are items that stand in so many bytes, 10 or more: as few elements as can be.
func itemsOf(bytes int) []api.Ver {
	rest := bytes - 1
	for len(num((rest+10)/11)) != bytes-rest {
		rest--
	}
	var l []api.Ver
	switch first := rest % 11; {
	case first == 0:
	case first < 3:
		l = append(l, element(first+2, 0), element(9, 0))
		rest -= first + 11
	default:
		l = append(l, element(first, 0))
		rest -= first
	}
	for i := range rest / 11 {
		l = append(l, element(11, i))
	}
	return l
}

// P17.1, P17.2: items of just as many bytes as may be laid, and of more.
func TestItemsOfManyBytes(t *testing.T) {
	k := items()
	for bytes := 30; bytes < 400; bytes++ {
		if n := len(toldItems(itemsOf(bytes))); n != bytes {
			t.Fatalf("items for %d bytes stand in %d", bytes, n)
		}
		k.putIs(t, itemsOf(bytes))
	}
	for bytes := blob - 20; bytes <= blob+20; bytes++ {
		l, want := itemsOf(bytes), api.OK
		if bytes > blob {
			want = api.ErrBig
		}
		if e := k.putIs(t, l); len(toldItems(l)) != bytes || e != want {
			t.Errorf("items for %d bytes: the model lays %d bytes, and tells %d", bytes, len(toldItems(l)), int(e))
		}
		if e := k.getIs(t, toldItems(l)); (e == api.OK) != (bytes <= blob) {
			t.Errorf("%d bytes: the model tells %d", bytes, int(e))
		}
	}
}

// P17.1: as many items of few bytes as may be laid, and one more.
func TestManyItems(t *testing.T) {
	// Of as many elements the count takes three bytes, and each of these another three, or four.
	var l []api.Ver
	for by := 1; by <= 64; by++ {
		for n := 1; n <= 300; n++ {
			l = append(l, ver(by, n))
		}
	}
	last, bytes := 0, 3
	for bytes+len(text(toldVer(l[last]))) <= blob {
		bytes += len(text(toldVer(l[last])))
		last++
	}
	if e := items().putIs(t, l[:last]); e != api.OK {
		t.Errorf("%d items: %d", last, int(e))
	}
	for _, many := range []int{last + 1, last + 2, len(l)} {
		items().isWrong(t, api.ErrBig, l[:many])
		items().isForm(t, toldItems(l[:many]))
	}
	// What is not valid counts ahead of what is too big, wherever it stands.
	for _, i := range []int{0, 1, last, len(l) - 1} {
		for _, v := range []api.Ver{{}, ver(1, 0), ver(65, 1), ver(30, 30)} {
			was := l[i]
			l[i] = v
			items().isWrong(t, api.ErrArg, l)
			l[i] = was
		}
	}
}

// P17.1: up to 64 whole claims, and up to 4096 items' claims, all of which are looked at.
func TestManyClaims(t *testing.T) {
	k := knowledge()
	for _, many := range []int{1, 63, 64, 65, 66, 127, 128, 1000} {
		want := api.OK
		if many > 64 {
			want = api.ErrArg
		}
		x := api.Know{Frags: slices.Repeat([]api.Frag{{F: []api.Clause{clause("a", 0, 9)}, V: vector(5), Not: []api.Ver{ver(1, 1)}}}, many)}
		if e := k.putIs(t, x); e != want {
			t.Errorf("%d whole claims: the model tells %d", many, int(e))
		}
		if e := k.getIs(t, toldKnow(x)); (e == api.OK) != (many <= 64) {
			t.Errorf("bytes of %d whole claims: the model tells %d", many, int(e))
		}
	}
	for _, many := range []int{1, 64, 65, 255, 256, 257, 4095, 4096, 4097, 4098, 8192} {
		want := api.OK
		if many > 4096 {
			want = api.ErrArg
		}
		// Of so few bytes that those of some more are few enough as well.
		x := api.Know{Items: slices.Repeat([]api.Known{{Item: ver(2, 2), V: vector(3)}}, many)}
		if e := k.putIs(t, x); e != want {
			t.Errorf("%d items' claims: the model tells %d", many, int(e))
		}
		if e := k.getIs(t, toldKnow(x)); (e == api.OK) != (many <= 4096) {
			t.Errorf("bytes of %d items' claims: the model tells %d", many, int(e))
		}
	}
}

// wrongClaims are knowledge of which one part is not valid.
func wrongClaims() []api.Know {
	var l []api.Know
	for _, x := range []api.Frag{
		{F: []api.Clause{clause("/", 0, 9)}},
		{F: []api.Clause{clause("a", 9, 0)}},
		{F: slices.Repeat([]api.Clause{clause("a", 0, 9)}, 65)},
		{V: at(0, 1)},
		{V: at(64, -1)},
		{Not: []api.Ver{ver(1, 0)}},
		{Not: []api.Ver{ver(2, 1), ver(1, 1)}},
		{Not: []api.Ver{ver(1, 1), ver(1, 1)}},
	} {
		l = append(l, api.Know{Frags: []api.Frag{x}})
	}
	for _, x := range []api.Known{{}, {Item: ver(65, 1)}, {Item: ver(1, 1), V: at(0, 1)}, {Item: ver(1, 1), V: at(3, -1)}} {
		l = append(l, api.Know{Items: []api.Known{x}})
	}
	return l
}

// P17.1: knowledge with a part that is not valid, at each place.
func TestWrongClaims(t *testing.T) {
	for _, w := range wrongClaims() {
		knowledge().isWrong(t, api.ErrArg, w)
		for place := range 3 {
			k := small()
			if len(w.Frags) > 0 {
				k.Frags = slices.Insert(k.Frags, place, w.Frags...)
			}
			if len(w.Items) > 0 {
				k.Items = slices.Insert(k.Items, place, w.Items...)
			}
			knowledge().isWrong(t, api.ErrArg, k)
			knowledge().getIs(t, toldKnow(k))
		}
	}
}

// P17.1: filters and vectors within claims are at their limits too.
func TestGreatClaims(t *testing.T) {
	full := vector(slices.Repeat([]int{most}, 64)...)
	f := slices.Repeat([]api.Clause{clause("aaaaaaaaaaaa/aaaaaaaaaaaa/aaaaaaaaaaaa/a", 128, 200)}, 64)
	k := knowledge()
	for many := range 30 {
		x := api.Know{
			Frags: slices.Repeat([]api.Frag{{F: f, V: full, Not: itemsOf(100)}}, many),
			Items: slices.Repeat([]api.Known{{Item: ver(64, most), V: full}}, many),
		}
		k.putIs(t, x)
		k.getIs(t, toldKnow(x))
	}
}

// bigFrag is knowledge of a whole claim with items of so many bytes, and of an item's claim.
func bigFrag(bytes int) api.Know {
	return api.Know{
		Frags: []api.Frag{{F: []api.Clause{clause("a", 0, 9)}, V: vector(5), Not: itemsOf(bytes)}},
		Items: []api.Known{{Item: ver(2, 2), V: vector(7)}},
	}
}

// bigItems is knowledge of many items' claims, and of a whole claim whose items take up what is left of so many bytes, or nearly.
func bigItems(bytes int) api.Know {
	k := api.Know{Items: slices.Repeat([]api.Known{{Item: ver(2, 2), V: vector(slices.Repeat([]int{most}, 64)...)}}, 80)}
	k.Frags = []api.Frag{{Not: itemsOf(bytes - len(toldKnow(k)))}}
	return k
}

// P17.1, P17.2: knowledge of just as many bytes as may be laid, and of more.
func TestKnowOfManyBytes(t *testing.T) {
	for _, made := range []func(int) api.Know{bigFrag, bigItems} {
		seen := map[int]bool{}
		for bytes := blob - 60; bytes <= blob+5; bytes++ {
			k := made(bytes)
			s := toldKnow(k)
			seen[len(s)] = true
			if e := knowledge().putIs(t, k); (e == api.OK) != (len(s) <= blob) {
				t.Errorf("%d bytes: the model tells %d", len(s), int(e))
			}
			if e := knowledge().getIs(t, s); (e == api.OK) != (len(s) <= blob) {
				t.Errorf("%d bytes are read: the model tells %d", len(s), int(e))
			}
		}
		if !seen[blob] || !seen[blob+1] {
			t.Errorf("no knowledge of %d or %d bytes", blob, blob+1)
		}
	}
}

// P17.1: ErrArg comes ahead of ErrBig, wherever what is not valid stands.
func TestWrongAndBig(t *testing.T) {
	for _, w := range wrongClaims() {
		for _, bytes := range []int{blob - 10, blob, blob + 1, 3 * blob} {
			k := bigFrag(bytes)
			knowledge().isWrong(t, api.ErrBig, k)
			ahead := api.Know{Frags: slices.Concat(w.Frags, k.Frags), Items: slices.Concat(w.Items, k.Items)}
			behind := api.Know{Frags: slices.Concat(k.Frags, w.Frags), Items: slices.Concat(k.Items, w.Items)}
			knowledge().isWrong(t, api.ErrArg, ahead, behind)
		}
	}
	many := api.Know{Frags: slices.Repeat([]api.Frag{{Not: itemsOf(blob)}}, 65)}
	knowledge().isWrong(t, api.ErrArg, many)
	many.Frags = many.Frags[:64]
	knowledge().isWrong(t, api.ErrBig, many)
	many.Items = slices.Repeat([]api.Known{{Item: ver(1, 1)}}, 4097)
	knowledge().isWrong(t, api.ErrArg, many)
	many.Items = many.Items[:4096]
	knowledge().isWrong(t, api.ErrBig, many)
}

// R1: what is far too long ends, with the error that the document names.
func TestVeryLong(t *testing.T) {
	l := make([]api.Ver, 2_000_000)
	for i := range l {
		l[i] = ver(1+i/40_000, 1+i%40_000)
	}
	is := func(what string, e, want api.Errno) {
		t.Helper()
		if e != want {
			t.Errorf("%s: %d, want %d", what, int(e), int(want))
		}
	}
	_, e := pack.PutItems(l)
	is("very many items", e, api.ErrBig)
	for _, s := range []string{strings.Repeat("\x00", 50_000_000), strings.Repeat("\xff", 50_000_000), toldItems(l), text(toldItems(l)) + "\x01\x00"} {
		formOfAll(t, s)
	}
	_, e = pack.PutKnow(api.Know{Frags: slices.Repeat([]api.Frag{{Not: l[:200_000]}}, 64)})
	is("claims with very many items", e, api.ErrBig)
	_, e = pack.PutKnow(api.Know{Items: make([]api.Known, 100_000)})
	is("very many claims", e, api.ErrArg)
	_, e = pack.PutFilter(make([]api.Clause, 10_000_000))
	is("very many clauses", e, api.ErrArg)
	_, e = pack.PutFilter([]api.Clause{{Prefix: strings.Repeat("a/", 10_000_000)}})
	is("a very long prefix", e, api.ErrArg)
	l[0], l[1] = l[1], l[0]
	_, e = pack.PutItems(l)
	is("very many items in another order", e, api.ErrArg)
}

// formOfAll tells of bytes that any Get reads.
func formOfAll(t *testing.T, s string) {
	t.Helper()
	for name, get := range gets() {
		if e := get(s); e != api.ErrForm {
			t.Errorf("Get%s(%x), of %d bytes: %d", name, brief(s), len(s), int(e))
		}
	}
}

// gets are all calls that read bytes, by what they read.
func gets() map[string]func(string) api.Errno {
	return map[string]func(string) api.Errno{
		"Update": func(s string) api.Errno { _, e := pack.GetUpdate(s); return e },
		"Meta":   func(s string) api.Errno { _, e := pack.GetMeta(s); return e },
		"Vec":    func(s string) api.Errno { _, e := pack.GetVec(s); return e },
		"Items":  func(s string) api.Errno { _, e := pack.GetItems(s); return e },
		"Filter": func(s string) api.Errno { _, e := pack.GetFilter(s); return e },
		"Know":   func(s string) api.Errno { _, e := pack.GetKnow(s); return e },
	}
}
