package shelf_test

import (
	"fmt"
	"math"
	"reflect"
	"slices"
	"strings"
	"testing"

	"tailrace/api"
	"tailrace/rank"
	"tailrace/shelf"
)

func doc(fields ...api.Field) api.Doc { return fields }

func field(path string, v api.Value) api.Field { return api.Field{Path: path, Val: v} }

// a is a document of one number.
func a(n int) api.Doc { return doc(field("a", rank.Num(n))) }

func named(key string, d api.Doc) api.Named { return api.Named{Key: key, Doc: d} }

func stands(pos int, key string, d api.Doc) api.Change {
	return api.Change{Pos: pos, Key: key, Has: true, Doc: d}
}

func gone(pos int, key string) api.Change { return api.Change{Pos: pos, Key: key} }

func load(n int, docs ...api.Named) api.Op { return api.Op{Kind: api.OpLoad, N: n, Docs: docs} }

func feed(n int, news ...api.Change) api.Op { return api.Op{Kind: api.OpFeed, N: n, News: news} }

func ready() api.Op { return api.Op{Kind: api.OpReady} }

func find(from, to string, most, n int) api.Op {
	return api.Op{Kind: api.OpFind, Key: from, To: to, Most: most, N: n}
}

func code(e api.Errno) api.Answer { return api.Answer{Code: e} }

func pair(key, val string) api.Pair { return api.Pair{Key: key, Val: val} }

// entry is a document's pair, of these values.
func entry(doc string, values ...api.Value) api.Pair { return pair(key(values...), doc) }

// key is the key of values.
func key(values ...api.Value) string {
	k, e := rank.Key(values)
	if e != api.OK {
		panic(e)
	}
	return k
}

// longest is a key as long as one may be.
func longest() string { return strings.Repeat("\xff", api.MaxKey) }

// odd are documents that may not be.
func odd() []api.Doc {
	return []api.Doc{
		doc(field("b", rank.Num(1)), field("a", rank.Num(1))),
		doc(field("a", rank.Num(1)), field("a", rank.Num(1))),
		doc(field("", rank.Num(1))),
		doc(field("a", rank.Num(api.MaxNum+1))),
		doc(api.Field{Path: "a"}),
		append(a(1), api.Field{}),
	}
}

// row is so many documents, with keys of five digits.
func row(n int) []api.Named {
	var l []api.Named
	for i := range n {
		l = append(l, named(fmt.Sprintf("%05d", i), a(i)))
	}
	return l
}

// entries are those of such a row, of a.
func entries(n int) []api.Pair {
	var l []api.Pair
	for i := range n {
		l = append(l, entry(fmt.Sprintf("%05d", i), rank.Num(i)))
	}
	return l
}

// news is so many changes behind a place.
func news(from, n int) []api.Change {
	var l []api.Change
	for i := range n {
		if i%3 == 2 {
			l = append(l, gone(from+1+i, "00001"))
		} else {
			l = append(l, stands(from+1+i, fmt.Sprint("k", i), a(i)))
		}
	}
	return l
}

func of(def string, mark int, l ...api.Pair) api.Shelf {
	return api.Shelf{Def: def, Mark: mark, Entries: l}
}

// readied is a shelf that is ready.
func readied(s api.Shelf) api.Shelf {
	s.Ready = true
	return s
}

// shelves are those that may be.
func shelves() []api.Shelf {
	const top = api.MaxCount
	l := []api.Shelf{
		{Def: "a"}, {Def: "a", Entries: []api.Pair{}}, {Def: "a,a,a,a"}, {Def: heaviest()}, of("norm(p*p)+1,b.c", 7),
		of("a", 3, entries(3)...), of("a", 40, entries(40)...), of("b", 5, entry("x", rank.Text("t"))),
		of("a", 1), of("a", 16), of("a", top), of("a", top-1, entries(2)...), of("a", top-15, entries(2)...), of("a", top-16), of("a", top-17),
		// Entries need be in order alone.
		of("a", 0, pair("", ""), pair("", "a"), pair("k", longest()+"x"), pair("l", "a")),
	}
	for _, s := range slices.Clone(l) {
		l = append(l, readied(s))
	}
	return l
}

// heaviest is a list of as many and as long expressions as there may be.
func heaviest() string {
	path := strings.Repeat("a", 63)
	one := strings.Join([]string{path, path, path, path + "b"}, "+")
	return strings.Join([]string{one, one, one, one}, ",")
}

// noDefs are no lists of expressions, and why.
func noDefs() map[string]api.Errno {
	deep := strings.Repeat("turn(", api.MaxTerm) + "a" + strings.Repeat(")", api.MaxTerm)
	long := strings.Repeat("a", api.MaxText+1)
	return map[string]api.Errno{
		"": api.ErrText, ",": api.ErrText, "a,": api.ErrText, "A": api.ErrText, "a b": api.ErrText, "a,b,c,d,e": api.ErrText, "7+": api.ErrText,
		deep: api.ErrDeep, "a," + deep: api.ErrDeep, long: api.ErrLong, "a," + long: api.ErrLong, long + "," + deep: api.ErrLong, deep + "," + long: api.ErrDeep,
	}
}

// noShelves are those that may not be, each for one reason.
func noShelves() []api.Shelf {
	l := []api.Shelf{
		{}, of("a", -1), of("a", api.MaxCount+1), of("a", math.MinInt), of("a", math.MaxInt),
		of("a", 1, pair("b", ""), pair("a", "")), of("a", 1, pair("a", "y"), pair("a", "x")), of("a", 1, pair("a", "x"), pair("a", "x")),
		of("a", 1, pair("a", ""), pair("c", ""), pair("b", "")), of("a", 1, pair("a", ""), pair("b", ""), pair("b", "")),
	}
	for def := range noDefs() {
		l = append(l, of(def, 1, entries(2)...))
	}
	for _, s := range slices.Clone(l) {
		l = append(l, readied(s))
	}
	return l
}

// noDocs are lists that are none of documents.
func noDocs() [][]api.Named {
	l := [][]api.Named{
		{named("b", nil), named("a", nil)}, {named("a", nil), named("a", nil)}, {named("a", nil), named("c", nil), named("b", nil)},
		{named("", nil)}, {named(longest()+"x", nil)}, {named("a", nil), named(longest()+"x", nil)},
	}
	for _, d := range odd() {
		l = append(l, []api.Named{named("a", d)}, []api.Named{named("a", nil), named("b", d)})
	}
	return l
}

// noNews are changes that may not be fed behind a place.
func noNews(n int) [][]api.Change {
	l := [][]api.Change{
		news(n, api.MaxNews+1), news(n, 100), make([]api.Change, api.MaxNews+1),
		news(n-1, 1), news(n-1, 2), news(n+1, 1), news(n+1, 2), {gone(0, "x")}, {gone(-1, "x")}, {gone(math.MinInt, "x")}, {gone(math.MaxInt, "x")},
		{gone(n+1, "x"), gone(n+1, "x")}, {gone(n+1, "x"), gone(n+3, "x")}, {gone(n+2, "x"), gone(n+1, "x")}, {gone(n+1, "x"), gone(n, "x")},
		slices.Concat(news(n, 15), news(n+16, 1)), slices.Concat(news(n, 15), news(n+14, 1)), {gone(n+1, "x"), gone(math.MinInt, "x")},
		{gone(n+1, "")}, {stands(n+1, "", nil)}, {gone(n+1, longest()+"x")}, {stands(n+1, longest()+"x", nil)},
		{gone(n+1, "x"), gone(n+2, "")}, {gone(n+1, "x"), gone(n+2, longest()+"x"), gone(n+3, "x")},
	}
	for _, d := range odd() {
		l = append(l, []api.Change{stands(n+1, "x", d)}, []api.Change{gone(n+1, "x"), stands(n+2, "x", d)}, slices.Concat(news(n, 15), []api.Change{stands(n+16, "x", d)}))
	}
	return l
}

// others are of kinds that are none of a shelf.
func others() []api.Op {
	kinds := []int{math.MinInt, -1, 0, api.OpLoad - 1, api.OpShelfKinds, api.OpShelfKinds + 1, math.MaxInt}
	for k := range api.OpKinds + 1 {
		kinds = append(kinds, k)
	}
	var l []api.Op
	for _, k := range kinds {
		l = append(l, api.Op{Kind: k}, api.Op{Kind: k, Key: "a", Doc: a(1), N: 3, Most: 3, Docs: row(3), News: news(3, 3)})
	}
	return l
}

// asked is some of each kind, done and refused, of a shelf of such a mark.
func asked(mark int) []api.Op {
	l := []api.Op{
		ready(),
		find("", "", 24, mark), find("", "", 1, 0), find(key(rank.Num(1)), key(rank.Num(7)), 3, mark), find("", "", 5, mark+1), find("", "", 0, mark), find("", "", 25, mark), find("b", "a", 2, -1), find(longest()+"x", "", 9, math.MinInt), find("", "", 24, math.MaxInt), find("", "", -1, mark+1),
		load(mark), load(mark, row(3)...), load(mark+1, row(30)...), load(mark-1, row(2)...), load(-1), load(api.MaxCount, named(longest(), a(1))), load(api.MaxCount + 1),
		feed(mark), feed(mark, news(mark, 1)...), feed(mark, news(mark, 3)...), feed(mark, news(mark, 16)...), feed(mark-1, news(mark-1, 2)...), feed(mark+1, news(mark+1, 2)...), feed(mark - 1), feed(mark + 1), feed(-5), feed(math.MaxInt),
		feed(mark, gone(mark+1, "00001"), stands(mark+2, "00001", a(9)), stands(mark+3, "00001", nil)), feed(mark, stands(mark+1, "00000", doc(field("b", rank.Text("t"))))), feed(mark, gone(mark+1, longest())),
	}
	for _, docs := range noDocs() {
		l = append(l, load(mark, docs...), load(mark-1, docs...))
	}
	for _, some := range noNews(mark) {
		l = append(l, feed(mark, some...))
	}
	return append(l, others()...)
}

// dressed is what is asked, with all parts that have no meaning for its kind
// such as may not be.
func dressed(o api.Op) api.Op {
	bad := api.Op{
		Kind: o.Kind, Key: longest() + "x", To: "\x00", Doc: odd()[0], Want: odd()[1], Has: true, N: -9, Most: -9,
		List: []api.Op{ready()}, Docs: noDocs()[0], News: noNews(-9)[0],
	}
	switch o.Kind {
	case api.OpLoad:
		bad.N, bad.Docs = o.N, o.Docs
	case api.OpFeed:
		bad.N, bad.News = o.N, o.News
	case api.OpFind:
		bad.N, bad.Key, bad.To, bad.Most = o.N, o.Key, o.To, o.Most
	}
	return bad
}

// plain is a shelf with nil for an empty list, so that shelves can be held
// against each other by another way than the program's.
func plain(s api.Shelf) api.Shelf {
	s.Entries = append([]api.Pair(nil), s.Entries...)
	return s
}

func sameShelf(x, y api.Shelf) bool { return reflect.DeepEqual(plain(x), plain(y)) }

func sameAnswer(x, y api.Answer) bool {
	x.Keys, y.Keys = append([]api.Pair(nil), x.Keys...), append([]api.Pair(nil), y.Keys...)
	return len(x.Doc)+len(x.Docs)+len(x.News) == 0 && reflect.DeepEqual(x, y)
}

// want asks a shelf, and holds what comes of it against what must.
func want(t *testing.T, s api.Shelf, o api.Op, then api.Shelf, told api.Answer) {
	t.Helper()
	got, answer, e := shelf.Apply(s, o)
	if e != api.OK || !sameShelf(got, then) || !sameAnswer(answer, told) {
		t.Fatalf("%+v of %+v:\n%+v, %+v, error %d; want\n%+v, %+v", o, s, got, answer, e, then, told)
	}
	if shelf.Check(got) != api.OK {
		t.Fatalf("%+v of %+v: what comes of it may not be", o, s)
	}
}
