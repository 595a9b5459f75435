package shop_test

import (
	"fmt"
	"math"
	"slices"
	"strings"
	"testing"

	"tailrace/api"
	"tailrace/cell"
	"tailrace/paper"
	"tailrace/rank"
	"tailrace/shop"
)

func TestTheExample(t *testing.T) {
	docs, a, l, e := shop.Apply(nil, casNone("x", nil), 0)
	if e != api.OK || a.Code != api.OK || a.N != 1 || len(docs) != 1 || len(l) != 1 {
		t.Fatalf("Apply: %v, %+v, %v, error %d", docs, a, l, e)
	}
	want(t, "again", docs, casNone("x", nil), 1, came{docs: docs, answer: api.Answer{Code: api.ErrCas, Has: true}})
}

// So1: Check, Light, Same

func TestCheck(t *testing.T) {
	var all []api.Named
	for i, k := range keys() {
		all = append(all, named(k, a(i)))
	}
	// Only what is put must be light.
	good := [][]api.Named{nil, {}, all, row(1), row(api.MaxDocs), {named("x", heaviest())}, {named(longest(), nil)}}
	for _, l := range append(good, few()...) {
		if e := shop.Check(l); e != api.OK {
			t.Errorf("Check(%v): error %d", l, e)
		}
	}
	for _, l := range noDocs() {
		if e := shop.Check(l); e != api.ErrArg {
			t.Errorf("Check(%v): error %d", l, e)
		}
	}
	for i := range len(all) - 1 {
		l := slices.Clone(all)
		l[i], l[i+1] = l[i+1], l[i]
		if e := shop.Check(l); e != api.ErrArg {
			t.Errorf("Check, those at %d being out of order: error %d", i, e)
		}
	}
}

// size is how many bytes a document's cell has.
func size(t *testing.T, d api.Doc) int {
	t.Helper()
	c, e := paper.Cell(d)
	if e != api.OK {
		t.Fatalf("paper.Cell: error %d", e)
	}
	b, e := cell.Encode(c)
	if e != api.OK {
		t.Fatalf("cell.Encode: error %d", e)
	}
	return len(b)
}

func TestLight(t *testing.T) {
	for _, n := range []int{400, api.MaxDoc - 1, api.MaxDoc, api.MaxDoc + 1, api.MaxDoc + 2} {
		if size(t, heavy(n)) != n {
			t.Fatalf("a document of %d bytes has %d", n, size(t, heavy(n)))
		}
		if shop.Light(heavy(n)) != (n <= 512) {
			t.Errorf("Light of %d bytes is %t", n, n > 512)
		}
	}
	var numbers api.Doc
	for i := range api.MaxFields {
		numbers = append(numbers, field(string(rune('a'+i)), rank.Num(-api.MaxNum)))
	}
	for _, d := range []api.Doc{nil, {}, a(1), numbers, doc(field("p", rank.Point(-1, 1)))} {
		if !shop.Light(d) {
			t.Errorf("Light(%v) is false", d)
		}
	}
	if shop.Light(heaviest()) {
		t.Error("the greatest document is light")
	}
	for _, d := range odd() {
		if shop.Light(d) {
			t.Errorf("Light(%v), which may not be, is true", d)
		}
	}
}

func TestSame(t *testing.T) {
	unlike := []api.Answer{
		{}, {Code: api.ErrCas}, {Code: api.ErrNone}, {Has: true}, {Has: true, Doc: a(1)}, {Has: true, Doc: a(2)},
		{Doc: a(1)}, {Doc: odd()[0]}, {Doc: doc(field("a", rank.Num(1)), field("b", rank.Num(1)))},
		{N: 1}, {N: 2}, {N: -1}, {Total: 1}, {Total: -1}, {N: 1, Total: 1},
		{Docs: row(1)}, {Docs: row(2)}, {Docs: row(2)[1:]}, {Docs: []api.Named{{}}}, {Docs: []api.Named{named("00000", a(1))}}, {Docs: []api.Named{named("x", a(0))}},
		{News: []api.Change{{}}}, {News: []api.Change{{}, {}}}, {News: []api.Change{stands(0, "", nil)}}, {News: []api.Change{stands(0, "", a(1))}},
		{News: []api.Change{gone(1, "")}}, {News: []api.Change{gone(1, "x")}}, {News: []api.Change{{Doc: a(1)}}}, {News: []api.Change{gone(1, "x"), gone(2, "x")}},
		{Keys: []api.Pair{{}}}, {Keys: []api.Pair{{Key: "x"}}}, {Keys: []api.Pair{{Val: "x"}}}, {Keys: []api.Pair{{}, {}}},
		{Code: api.ErrCas, Has: true, Doc: a(1), Docs: row(2), News: []api.Change{gone(1, "x")}, N: 1, Total: 2, Keys: []api.Pair{{Key: "x"}}},
	}
	for i, x := range unlike {
		for j, y := range unlike {
			if shop.Same(x, y) != (i == j) {
				t.Errorf("Same of %d and %d is %t", i, j, i != j)
			}
		}
	}
	empty := api.Answer{Doc: api.Doc{}, Docs: []api.Named{}, News: []api.Change{}, Keys: []api.Pair{}}
	if !shop.Same(empty, api.Answer{}) || !shop.Same(api.Answer{}, empty) {
		t.Error("an empty list is not as none")
	}
	within := api.Answer{Docs: []api.Named{{Key: "x", Doc: api.Doc{}}}, News: []api.Change{{Key: "x", Doc: api.Doc{}}}}
	if !shop.Same(within, api.Answer{Docs: []api.Named{{Key: "x"}}, News: []api.Change{{Key: "x"}}}) {
		t.Error("an empty document is not as none")
	}
	room := api.Answer{Doc: heaviest()[:1], Docs: row(5)[:2]}
	if !shop.Same(room, api.Answer{Doc: slices.Clone(heaviest()[:1]), Docs: row(2)}) {
		t.Error("what lies behind a list's end makes a difference")
	}
}

// So1: Apply

func TestApplyRefusesDocumentsAndTotals(t *testing.T) {
	asked := []api.Op{put("x", a(1)), put("", nil), get("x"), del("nowhere"), scan("", "", 1), batch(), {}, {Kind: api.OpSnap}}
	for _, o := range asked {
		for _, docs := range noDocs() {
			wantArg(t, docs, o, 0)
			wantArg(t, docs, o, -1)
		}
		for _, total := range noTotals() {
			wantArg(t, nil, o, total)
			wantArg(t, row(3), o, total)
		}
	}
}

func TestTotals(t *testing.T) {
	l := []api.Op{put("x", a(1)), del("x"), casNone("x", nil), del("x")}
	for _, total := range []int{0, 1, 5, api.MaxCount - 5, api.MaxCount - 4} {
		p := total + 1
		want(t, "a put", nil, l[0], total, came{[]api.Named{named("x", a(1))}, api.Answer{N: p}, []api.Change{stands(p, "x", a(1))}})
		want(t, "a batch of four", nil, batch(l...), total, came{
			answer:  api.Answer{N: p + 3},
			changes: []api.Change{stands(p, "x", a(1)), gone(p+1, "x"), stands(p+2, "x", nil), gone(p+3, "x")},
		})
		want(t, "a get", nil, get("x"), total, came{})
	}
}

// with is documents with another one, by another way than the program's.
func with(docs []api.Named, key string, d api.Doc) []api.Named {
	l := append(without(docs, key), named(key, d))
	slices.SortFunc(l, func(x, y api.Named) int { return strings.Compare(x.Key, y.Key) })
	return l
}

func without(docs []api.Named, key string) []api.Named {
	var l []api.Named
	for _, n := range docs {
		if n.Key != key {
			l = append(l, n)
		}
	}
	return l
}

// there is what stands at a key, if anything does.
func there(docs []api.Named, key string) (api.Doc, bool) {
	for _, n := range docs {
		if n.Key == key {
			return n.Doc, true
		}
	}
	return nil, false
}

func TestPut(t *testing.T) {
	for _, docs := range few() {
		for _, k := range keys() {
			for _, d := range []api.Doc{nil, a(2), a(9), heavy(api.MaxDoc)} {
				// Also what is there already is a change.
				right := came{with(docs, k, d), api.Answer{N: 8}, []api.Change{stands(8, k, d)}}
				want(t, fmt.Sprintf("put %q", k), docs, put(k, d), 7, right)
			}
		}
	}
}

func TestPutRefuses(t *testing.T) {
	full := row(api.MaxDocs)
	for _, docs := range [][]api.Named{nil, row(1), full} {
		for _, k := range noKeys() {
			for _, d := range append(odd(), nil, a(1), heaviest()) {
				wantRefused(t, "put at no key", docs, put(k, d), api.ErrArg)
			}
		}
		for _, d := range odd() {
			wantRefused(t, "put of what may not be", docs, put("00000", d), api.ErrArg)
			wantRefused(t, "put of what may not be", docs, put("x", d), api.ErrArg)
		}
		for _, d := range []api.Doc{heavy(api.MaxDoc + 1), heaviest()} {
			wantRefused(t, "put of what is not light", docs, put("00000", d), api.ErrLong)
			wantRefused(t, "put of what is not light", docs, put("x", d), api.ErrLong)
		}
	}
	for _, k := range []string{"x", "\x00", "000005", "00005\x00", longest()} {
		wantRefused(t, "put of one too many", full, put(k, a(1)), api.ErrFull)
		want(t, "put of the last one", full[:23], put(k, a(1)), 7, came{with(full[:23], k, a(1)), api.Answer{N: 8}, []api.Change{stands(8, k, a(1))}})
	}
	for _, n := range full {
		want(t, "put of one of all", full, put(n.Key, a(-1)), 7, came{with(full, n.Key, a(-1)), api.Answer{N: 8}, []api.Change{stands(8, n.Key, a(-1))}})
	}
}

func TestDelete(t *testing.T) {
	for _, docs := range append(few(), row(api.MaxDocs), []api.Named{named("a", heaviest())}) {
		for _, k := range append(keys(), "00000", "00023") {
			if _, has := there(docs, k); has {
				want(t, fmt.Sprintf("delete %q", k), docs, del(k), 7, came{without(docs, k), api.Answer{N: 8}, []api.Change{gone(8, k)}})
			} else {
				wantRefused(t, fmt.Sprintf("delete %q", k), docs, del(k), api.ErrNone)
			}
		}
		for _, k := range noKeys() {
			wantRefused(t, "delete at no key", docs, del(k), api.ErrArg)
		}
	}
}

func TestGet(t *testing.T) {
	for _, docs := range append(few(), row(api.MaxDocs), []api.Named{named("a", heaviest())}) {
		for _, k := range append(keys(), "00000", "00023") {
			d, has := there(docs, k)
			want(t, fmt.Sprintf("get %q", k), docs, get(k), 7, came{docs: docs, answer: api.Answer{Has: has, Doc: d}})
		}
		for _, k := range noKeys() {
			wantRefused(t, "get at no key", docs, get(k), api.ErrArg)
		}
	}
}

func TestCas(t *testing.T) {
	for _, docs := range few() {
		for _, k := range keys() {
			d, has := there(docs, k)
			stays := came{docs: docs, answer: api.Answer{Code: api.ErrCas, Has: has, Doc: d}}
			turns := came{with(docs, k, a(9)), api.Answer{N: 8}, []api.Change{stands(8, k, a(9))}}
			for _, w := range []api.Doc{nil, a(1), a(2), a(4), a(9), doc(field("b", rank.Num(2))), heaviest()} {
				right := stays
				if has && sameDoc(d, w) {
					right = turns
				}
				want(t, fmt.Sprintf("cas %q", k), docs, cas(k, w, a(9)), 7, right)
			}
			right := turns
			if has {
				right = stays
			}
			want(t, fmt.Sprintf("cas %q, nothing being there", k), docs, casNone(k, a(9)), 7, right)
		}
	}
	docs := []api.Named{named("x", heaviest())}
	want(t, "cas of what is not light", docs, cas("x", heaviest(), nil), 7, came{[]api.Named{named("x", nil)}, api.Answer{N: 8}, []api.Change{stands(8, "x", nil)}})
}

func TestCasRefuses(t *testing.T) {
	full := row(api.MaxDocs)
	for _, docs := range [][]api.Named{nil, row(1), full} {
		for _, k := range noKeys() {
			wantRefused(t, "cas at no key", docs, casNone(k, a(1)), api.ErrArg)
			wantRefused(t, "cas at no key", docs, cas(k, a(1), a(1)), api.ErrArg)
			wantRefused(t, "cas at no key", docs, cas(k, a(1), heaviest()), api.ErrArg)
		}
		for _, d := range odd() {
			wantRefused(t, "cas of what may not be", docs, casNone("x", d), api.ErrArg)
			wantRefused(t, "cas of what may not be", docs, casNone("00000", d), api.ErrArg)
			wantRefused(t, "cas of what may not be", docs, cas("00000", a(0), d), api.ErrArg)
			wantRefused(t, "cas, what may not be being there", docs, cas("00000", d, a(0)), api.ErrArg)
			wantRefused(t, "cas, what may not be being there", docs, cas("x", d, heaviest()), api.ErrArg)
		}
		wantRefused(t, "cas of what is not light", docs[:min(1, len(docs))], casNone("x", heavy(api.MaxDoc+1)), api.ErrLong)
		// The comparison comes ahead of the weight.
		want(t, "cas of what is not light, and of another one", docs, cas("x", a(0), heaviest()), 7, came{docs: docs, answer: api.Answer{Code: api.ErrCas}})
	}
	wantRefused(t, "cas of what is not light", full, cas("00003", a(3), heaviest()), api.ErrLong)
	wantRefused(t, "cas of what is not light, and one too many", full, casNone("x", heaviest()), api.ErrLong)
	want(t, "cas of what is not light, and of another one", full, cas("00003", a(4), heaviest()), 7, came{docs: full, answer: api.Answer{Code: api.ErrCas, Has: true, Doc: a(3)}})
	wantRefused(t, "cas of one too many", full, casNone("x", a(1)), api.ErrFull)
	want(t, "cas of one too many, and of another one", full, cas("x", a(1), a(1)), 7, came{docs: full, answer: api.Answer{Code: api.ErrCas}})
	want(t, "cas of one of all", full, cas("00003", a(3), nil), 7, came{with(full, "00003", nil), api.Answer{N: 8}, []api.Change{stands(8, "00003", nil)}})
}

// scanned is a scan, one by one.
func scanned(docs []api.Named, key, to string, most int) []api.Named {
	var l []api.Named
	for _, n := range docs {
		if n.Key >= key && (to == "" || n.Key < to) && len(l) < most {
			l = append(l, n)
		}
	}
	return l
}

func TestScan(t *testing.T) {
	bounds := []string{"", "\x00", "\x00\x00", "A", "a", "a\x00", "a\x00\x00", "aa", "b", "c", "\xff", longest()}
	for _, docs := range few() {
		for _, key := range bounds {
			for _, to := range bounds {
				for _, most := range []int{1, 2, 4, 5, 6, 24} {
					right := came{docs: docs, answer: api.Answer{Docs: scanned(docs, key, to, most)}}
					want(t, fmt.Sprintf("scan %q to %q, %d", key, to, most), docs, scan(key, to, most), 7, right)
				}
			}
		}
	}
	full := row(api.MaxDocs)
	want(t, "scan of all", full, scan("", "", 24), 7, came{docs: full, answer: api.Answer{Docs: full}})
	want(t, "scan of all but one", full, scan("", "", 23), 7, came{docs: full, answer: api.Answer{Docs: full[:23]}})
	want(t, "scan of the last one", full, scan("00023", "", 24), 7, came{docs: full, answer: api.Answer{Docs: full[23:]}})
}

func TestScanRefuses(t *testing.T) {
	long := longest() + "\x00"
	for _, docs := range [][]api.Named{nil, row(1), row(api.MaxDocs)} {
		for _, most := range []int{0, -1, math.MinInt, 25, math.MaxInt} {
			wantRefused(t, "scan of so many", docs, scan("", "", most), api.ErrArg)
			wantRefused(t, "scan of so many", docs, scan("b", "a", most), api.ErrArg)
		}
		wantRefused(t, "scan from too long a key", docs, scan(long, "", 1), api.ErrArg)
		wantRefused(t, "scan up to too long a key", docs, scan("", long, 1), api.ErrArg)
		wantRefused(t, "scan of too long keys", docs, scan(long, long, 1), api.ErrArg)
	}
}

func TestOtherKinds(t *testing.T) {
	for _, kind := range noKinds() {
		wantRefused(t, fmt.Sprint("kind ", kind), row(3), api.Op{Kind: kind, Key: "x", Doc: a(1), Most: 1, Has: true}, api.ErrArg)
		wantRefused(t, fmt.Sprint("kind ", kind), nil, api.Op{Kind: kind, List: []api.Op{put("x", nil)}}, api.ErrArg)
	}
}
