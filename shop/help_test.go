package shop_test

import (
	"fmt"
	"math"
	"reflect"
	"slices"
	"strings"
	"testing"

	"tailrace/api"
	"tailrace/rank"
	"tailrace/shop"
)

func doc(fields ...api.Field) api.Doc { return fields }

func field(path string, v api.Value) api.Field { return api.Field{Path: path, Val: v} }

// a is a document of one number.
func a(n int) api.Doc { return doc(field("a", rank.Num(n))) }

func named(key string, d api.Doc) api.Named { return api.Named{Key: key, Doc: d} }

func put(key string, d api.Doc) api.Op { return api.Op{Kind: api.OpPut, Key: key, Doc: d} }

func del(key string) api.Op { return api.Op{Kind: api.OpDelete, Key: key} }

func get(key string) api.Op { return api.Op{Kind: api.OpGet, Key: key} }

// cas asks for want to be there ahead.
func cas(key string, want, d api.Doc) api.Op {
	return api.Op{Kind: api.OpCas, Key: key, Has: true, Want: want, Doc: d}
}

// casNone asks for nothing to be there ahead.
func casNone(key string, d api.Doc) api.Op { return api.Op{Kind: api.OpCas, Key: key, Doc: d} }

func scan(key, to string, most int) api.Op {
	return api.Op{Kind: api.OpScan, Key: key, To: to, Most: most}
}

func batch(l ...api.Op) api.Op { return api.Op{Kind: api.OpBatch, List: l} }

func stands(pos int, key string, d api.Doc) api.Change {
	return api.Change{Pos: pos, Key: key, Has: true, Doc: d}
}

func gone(pos int, key string) api.Change { return api.Change{Pos: pos, Key: key} }

// longest is a key as long as one may be.
func longest() string { return strings.Repeat("\xff", api.MaxKey) }

// keys are documents' keys by rising bytes, whose order by runes, letters or lengths is another one.
func keys() []string {
	return []string{"\x00", "\x00\x00", "10", "9", "B", "a", "a\x00", "aa", "b", "\xee\x80\x80", "\xf0\x90\x80\x80", "\xff", longest()}
}

// noKeys are texts that are no documents' keys.
func noKeys() []string { return []string{"", longest() + "x", strings.Repeat("k", 1000)} }

// heavy is a document of so many bytes (layer 1), from 300 to 600: a list of
// two fields (2 bytes), each a list (2) of a path (3) and a text (3).
func heavy(n int) api.Doc {
	n -= 2 + 2*(2+3+3)
	return doc(field("a", rank.Text(strings.Repeat("x", n/2))), field("b", rank.Text(strings.Repeat("y", n-n/2))))
}

// heaviest is the greatest document there is: not light, but it may be.
func heaviest() api.Doc {
	var d api.Doc
	for i := range api.MaxFields {
		path := string(rune('a'+i)) + strings.Repeat("x", api.MaxKey-1)
		d = append(d, field(path, rank.Text(strings.Repeat("\xff", api.MaxText))))
	}
	return d
}

// odd are documents that may not be.
func odd() []api.Doc {
	return []api.Doc{
		doc(field("", rank.Num(1))),
		doc(field("A", rank.Num(1))),
		doc(api.Field{Path: "a"}),
		doc(field("a", api.Value{Kind: 4})),
		doc(field("a", rank.Num(api.MaxNum+1))),
		doc(field("a", rank.Text(strings.Repeat("x", api.MaxText+1)))),
		doc(field("a", rank.Point(0, -api.MaxPart-1))),
		doc(field("a", api.Value{Kind: api.ValNum, Text: "x"})),
		doc(field("b", rank.Num(1)), field("a", rank.Num(1))),
		doc(field("a", rank.Num(1)), field("a", rank.Num(1))),
		append(heaviest(), field("z", rank.Num(1))),
	}
}

// row is so many documents, with keys of five digits.
func row(n int) []api.Named {
	var l []api.Named
	for i := range n {
		l = append(l, named(fmt.Sprintf("%05d", i), a(i)))
	}
	return l
}

// few are documents of some keys: all that there are of five.
func few() [][]api.Named {
	all := []api.Named{named("\x00", a(1)), named("a", a(2)), named("a\x00", nil), named("b", a(4)), named("\xff", a(5))}
	var out [][]api.Named
	for bits := range 1 << len(all) {
		var l []api.Named
		for i, n := range all {
			if bits>>i&1 == 1 {
				l = append(l, n)
			}
		}
		out = append(out, l)
	}
	return out
}

// noDocs are lists that are none of documents, wherever it is that they are not.
func noDocs() [][]api.Named {
	l := [][]api.Named{
		row(api.MaxDocs + 1),
		row(10 * api.MaxDocs),
		{named("b", a(1)), named("a", a(2))},
		{named("a", a(1)), named("a", a(2))},
		{named("a", a(1)), named("a", a(1))},
		{named("a", nil), named("c", nil), named("b", nil)},
		{named("a", nil), named("b", nil), named("a", nil)},
		{named("aa", nil), named("a", nil)},
		{named("9", nil), named("10", nil)},
		{named("\xf0\x90\x80\x80", nil), named("\xee\x80\x80", nil)},
	}
	for _, k := range noKeys() {
		l = append(l, []api.Named{named(k, a(1))})
	}
	for _, d := range odd() {
		l = append(l, []api.Named{named("a", d)}, []api.Named{named("a", nil), named("b", d)})
	}
	return l
}

// noTotals are how many changes there can't be.
func noTotals() []int {
	return []int{-1, math.MinInt, api.MaxCount - 3, api.MaxCount, api.MaxCount + 1, math.MaxInt}
}

// noKinds are kinds of nothing that is asked of documents.
func noKinds() []int {
	l := []int{math.MinInt, -1, 0, math.MaxInt}
	for k := api.OpOpen; k <= api.OpKinds; k++ {
		l = append(l, k)
	}
	for k := api.OpLoad - 1; k <= api.OpShelfKinds; k++ {
		l = append(l, k)
	}
	return l
}

// dressed is what is asked, with all parts that have no meaning for its kind
// such as may not be.
func dressed(o api.Op) api.Op {
	bad := api.Op{
		Kind: o.Kind, Key: longest() + "x", To: longest() + "x", Doc: odd()[0], Want: odd()[1], Has: true, N: -9, Most: -9,
		List: []api.Op{put("a", a(1)), get("a"), del("")}, Docs: row(2), News: []api.Change{stands(-1, "", odd()[2])},
	}
	if o.Kind != api.OpBatch {
		bad.Key = o.Key
	} else {
		bad.List = o.List
	}
	switch o.Kind {
	case api.OpPut:
		bad.Doc = o.Doc
	case api.OpCas:
		bad.Doc, bad.Has = o.Doc, o.Has
		if o.Has {
			bad.Want = o.Want
		}
	case api.OpScan:
		bad.To, bad.Most = o.To, o.Most
	}
	return bad
}

func sameDoc(x, y api.Doc) bool { return slices.Equal(x, y) }

func sameNamed(x, y api.Named) bool { return x.Key == y.Key && sameDoc(x.Doc, y.Doc) }

func sameDocs(x, y []api.Named) bool { return slices.EqualFunc(x, y, sameNamed) }

func sameNews(x, y []api.Change) bool {
	return slices.EqualFunc(x, y, func(x, y api.Change) bool {
		return x.Pos == y.Pos && x.Key == y.Key && x.Has == y.Has && sameDoc(x.Doc, y.Doc)
	})
}

// sameAnswer holds answers against each other by another way than the
// program's; nil and the empty list are the same.
func sameAnswer(x, y api.Answer) bool {
	if !sameDoc(x.Doc, y.Doc) || !sameDocs(x.Docs, y.Docs) || !sameNews(x.News, y.News) || !slices.Equal(x.Keys, y.Keys) {
		return false
	}
	x.Doc, x.Docs, x.News, x.Keys = nil, nil, nil, nil
	y.Doc, y.Docs, y.News, y.Keys = nil, nil, nil, nil
	return reflect.DeepEqual(x, y)
}

// came is what comes of what is asked.
type came struct {
	docs    []api.Named
	answer  api.Answer
	changes []api.Change
}

// want asks, also with the parts that have no meaning such as may not be, and
// holds what comes of it against what must.
func want(t *testing.T, what string, docs []api.Named, o api.Op, total int, right came) {
	t.Helper()
	for i, o := range []api.Op{o, dressed(o)} {
		d, a, l, e := shop.Apply(docs, o, total)
		if e != api.OK || !sameDocs(d, right.docs) || !sameAnswer(a, right.answer) || !sameNews(l, right.changes) {
			t.Fatalf("%s (%d): %v, %+v, %v, error %d; want %v, %+v, %v", what, i, d, a, l, e, right.docs, right.answer, right.changes)
		}
	}
}

// wantRefused asks for what is refused: it turns nothing, and its answer is Code alone.
func wantRefused(t *testing.T, what string, docs []api.Named, o api.Op, e api.Errno) {
	t.Helper()
	want(t, what, docs, o, 7, came{docs: docs, answer: api.Answer{Code: e}})
}

// wantArg asks for what can't be asked at all.
func wantArg(t *testing.T, docs []api.Named, o api.Op, total int) {
	t.Helper()
	d, a, l, e := shop.Apply(docs, o, total)
	if e != api.ErrArg || len(d) != 0 || !sameAnswer(a, api.Answer{}) || len(l) != 0 {
		t.Errorf("Apply(%d documents, %d): %v, %+v, %v, error %d", len(docs), total, d, a, l, e)
	}
}
