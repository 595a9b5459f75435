package index_test

import (
	"fmt"
	"math"
	"reflect"
	"slices"
	"strings"
	"testing"

	"tailrace/api"
	"tailrace/expr"
	"tailrace/index"
	"tailrace/rank"
)

func TestTheExample(t *testing.T) {
	docs := []api.Named{named("x", a(2)), named("y", a(1)), named("z", nil)}
	l, e := index.Build("a", docs)
	want(t, "Build", l, e, []api.Pair{pair(t, "y", rank.Num(1)), pair(t, "x", rank.Num(2))})
}

// In1

func TestDocs(t *testing.T) {
	var all []api.Named
	for i, k := range keys() {
		all = append(all, named(k, some()[i]))
	}
	for _, l := range [][]api.Named{nil, {}, all, all[:1], all[3:], {named("x", full())}, {named(longest(), nil)}} {
		if e := index.Docs(l); e != api.OK {
			t.Errorf("Docs(%v): error %d", l, e)
		}
	}
	for _, l := range noDocs() {
		if e := index.Docs(l); e != api.ErrArg {
			t.Errorf("Docs(%v): error %d", l, e)
		}
	}
	for i := range len(all) - 1 {
		l := slices.Clone(all)
		l[i], l[i+1] = l[i+1], l[i]
		if e := index.Docs(l); e != api.ErrArg {
			t.Errorf("Docs, those at %d being out of order: error %d", i, e)
		}
		l[i].Key = l[i+1].Key
		if e := index.Docs(l); e != api.ErrArg {
			t.Errorf("Docs, the key at %d standing there twice: error %d", i, e)
		}
	}
}

func TestDocsOfManyDocuments(t *testing.T) {
	// A depot has fewer; this layer names no bound.
	var l []api.Named
	for i := range 10 * api.MaxDocs {
		l = append(l, named(fmt.Sprintf("%05d", i), a(-i)))
	}
	if e := index.Docs(l); e != api.OK {
		t.Errorf("Docs: error %d", e)
	}
	entries, e := index.Build("a", l)
	if e != api.OK || len(entries) != len(l) || entries[0].Val != l[len(l)-1].Key {
		t.Errorf("Build: %d entries, error %d", len(entries), e)
	}
}

func TestCheck(t *testing.T) {
	alikeVals := []api.Pair{{Key: "a", Val: "x"}, {Key: "b", Val: "x"}, {Key: "c"}, {Key: "c", Val: "w"}}
	for _, l := range [][]api.Pair{nil, {}, {{}}, {{}, {Val: "\x00"}, {Key: "\x00"}}, many(), alikeVals} {
		if e := index.Check(l); e != api.OK {
			t.Errorf("Check(%q): error %d", l, e)
		}
	}
	for _, l := range noEntries() {
		if e := index.Check(l); e != api.ErrArg {
			t.Errorf("Check(%q): error %d", l, e)
		}
	}
	for i := range len(many()) - 1 {
		l := many()
		l[i], l[i+1] = l[i+1], l[i]
		if e := index.Check(l); e != api.ErrArg {
			t.Errorf("Check, those at %d being out of order: error %d", i, e)
		}
		l[i] = l[i+1]
		if e := index.Check(l); e != api.ErrArg {
			t.Errorf("Check, two at %d being alike: error %d", i, e)
		}
	}
}

// built is what an index has of documents, one by one.
func built(t *testing.T, def string, docs []api.Named) []api.Pair {
	t.Helper()
	nodes, e := expr.ParseAll(def)
	if e != api.OK {
		t.Fatalf("ParseAll(%q): error %d", def, e)
	}
	var l []api.Pair
	for _, n := range docs {
		if values, ok := expr.EvalAll(nodes, n.Doc); ok {
			l = append(l, pair(t, n.Key, values...))
		}
	}
	return ordered(l)
}

func TestBuild(t *testing.T) {
	for _, def := range defs() {
		for turn := range some() {
			var docs []api.Named
			for i, k := range keys() {
				docs = append(docs, named(k, some()[(turn+i*i)%len(some())]))
			}
			l, e := index.Build(def, docs)
			want(t, "Build("+def+")", l, e, built(t, def, docs))
			if e := index.Check(l); e != api.OK {
				t.Fatalf("Check of Build(%s): error %d", def, e)
			}
		}
		l, e := index.Build(def, nil)
		want(t, "Build("+def+") of none", l, e, nil)
	}
}

func TestEntriesAreOrderedByValuesThenKeys(t *testing.T) {
	text := func(s string) api.Doc { return doc(field("a", rank.Text(s))) }
	point := func(re, im int) api.Doc { return doc(field("a", rank.Point(re, im))) }
	docs := []api.Named{
		named("a", text("b")), named("b", point(0, 1)), named("c", a(5)), named("d", text("")),
		named("e", a(-5)), named("f", text("aa")), named("g", a(5)), named("h", point(0, -1)), named("i", text("a")),
	}
	l, e := index.Build("a", docs)
	want(t, "Build", l, e, []api.Pair{
		pair(t, "e", rank.Num(-5)), pair(t, "c", rank.Num(5)), pair(t, "g", rank.Num(5)),
		pair(t, "d", rank.Text("")), pair(t, "i", rank.Text("a")), pair(t, "f", rank.Text("aa")), pair(t, "a", rank.Text("b")),
		pair(t, "h", rank.Point(0, -1)), pair(t, "b", rank.Point(0, 1)),
	})
}

func TestADocumentWithoutAllValuesHasNoEntry(t *testing.T) {
	both := doc(field("a", rank.Num(1)), field("b", rank.Text("x")))
	docs := []api.Named{named("p", a(1)), named("q", both), named("r", doc(field("b", rank.Text("x"))))}
	one, x := rank.Num(1), rank.Text("x")
	for def, right := range map[string][]api.Pair{
		"a":         {pair(t, "p", one), pair(t, "q", one)},
		"b":         {pair(t, "q", x), pair(t, "r", x)},
		"a,b":       {pair(t, "q", one, x)},
		"b,a":       {pair(t, "q", x, one)},
		"a+b":       nil,
		"a,norm(b)": nil,
		"3":         {pair(t, "p", rank.Num(3)), pair(t, "q", rank.Num(3)), pair(t, "r", rank.Num(3))},
	} {
		l, e := index.Build(def, docs)
		want(t, "Build("+def+")", l, e, right)
	}
}

func TestBuildRefuses(t *testing.T) {
	for def, right := range defsRefused() {
		for _, docs := range append(noDocs(), nil, []api.Named{named("x", a(1))}) {
			l, e := index.Build(def, docs)
			wantRefused(t, "Build("+def+")", l, e, right)
		}
	}
	for _, docs := range noDocs() {
		l, e := index.Build("a", docs)
		wantRefused(t, "Build", l, e, api.ErrArg)
	}
}

// found is those entries, one by one.
func found(entries []api.Pair, from, to string, most int) []api.Pair {
	var l []api.Pair
	for _, p := range entries {
		if p.Key >= from && (to == "" || p.Key < to) && len(l) < most {
			l = append(l, p)
		}
	}
	return l
}

func TestFind(t *testing.T) {
	bounds := []string{"", "\x00", "\x00\x00", "A", "a", "a\x00", "a\x01", "aa", "b", "c", "\xff", "\xff\xff"}
	for _, entries := range [][]api.Pair{nil, many()[:1], many()[4:11], many()} {
		for _, from := range bounds {
			for _, to := range bounds {
				for _, most := range []int{0, 1, 2, 3, 4, 20, 21, 22, math.MaxInt} {
					l, e := index.Find(entries, from, to, most)
					want(t, fmt.Sprintf("Find(%q, %q, %d)", from, to, most), l, e, found(entries, from, to, most))
				}
			}
		}
	}
}

func TestFindRefuses(t *testing.T) {
	for _, most := range []int{-1, -2, math.MinInt} {
		for _, entries := range append(noEntries(), nil, many()) {
			l, e := index.Find(entries, "", "", most)
			wantRefused(t, "Find", l, e, api.ErrArg)
		}
	}
	for _, entries := range noEntries() {
		for _, most := range []int{0, 1, math.MaxInt} {
			l, e := index.Find(entries, "", "", most)
			wantRefused(t, "Find", l, e, api.ErrArg)
			// Also where what is out of order is not asked for.
			l, e = index.Find(entries, "x", "y", most)
			wantRefused(t, "Find", l, e, api.ErrArg)
			l, e = index.Find(entries, "y", "x", most)
			wantRefused(t, "Find", l, e, api.ErrArg)
		}
	}
}

// In2

func TestUpdate(t *testing.T) {
	one := func(n int, key string) api.Pair { return pair(t, key, rank.Num(n)) }
	entries := []api.Pair{one(1, "b"), one(1, "d"), one(3, "c"), one(5, "a")}
	for _, c := range []struct {
		what   string
		change api.Change
		right  []api.Pair
	}{
		{"ahead of all", api.Change{Key: "e", Has: true, Doc: a(0)}, []api.Pair{one(0, "e"), one(1, "b"), one(1, "d"), one(3, "c"), one(5, "a")}},
		{"behind all", api.Change{Key: "e", Has: true, Doc: a(6)}, []api.Pair{one(1, "b"), one(1, "d"), one(3, "c"), one(5, "a"), one(6, "e")}},
		{"between", api.Change{Key: "e", Has: true, Doc: a(2)}, []api.Pair{one(1, "b"), one(1, "d"), one(2, "e"), one(3, "c"), one(5, "a")}},
		{"among those of one value", api.Change{Key: "c", Has: true, Doc: a(1)}, []api.Pair{one(1, "b"), one(1, "c"), one(1, "d"), one(5, "a")}},
		{"as it is", api.Change{Key: "d", Has: true, Doc: a(1)}, entries},
		{"moved to the end", api.Change{Key: "b", Has: true, Doc: a(9)}, []api.Pair{one(1, "d"), one(3, "c"), one(5, "a"), one(9, "b")}},
		{"moved to the beginning", api.Change{Key: "a", Has: true, Doc: a(-9)}, []api.Pair{one(-9, "a"), one(1, "b"), one(1, "d"), one(3, "c")}},
		{"without the value", api.Change{Key: "c", Has: true, Doc: doc(field("b", rank.Num(1)))}, []api.Pair{one(1, "b"), one(1, "d"), one(5, "a")}},
		{"gone", api.Change{Key: "c"}, []api.Pair{one(1, "b"), one(1, "d"), one(5, "a")}},
		{"gone, with a document", api.Change{Key: "c", Doc: a(1)}, []api.Pair{one(1, "b"), one(1, "d"), one(5, "a")}},
		{"gone, with a document that may not be", api.Change{Key: "c", Doc: odd()[0]}, []api.Pair{one(1, "b"), one(1, "d"), one(5, "a")}},
		{"gone, that was not there", api.Change{Key: "x"}, entries},
		{"not there, without the value", api.Change{Key: "x", Has: true}, entries},
		{"of any place", api.Change{Pos: -7, Key: "c"}, []api.Pair{one(1, "b"), one(1, "d"), one(5, "a")}},
	} {
		l, e := index.Update("a", entries, c.change)
		want(t, "Update, "+c.what, l, e, c.right)
	}
	l, e := index.Update("a", nil, api.Change{Key: "x", Has: true, Doc: a(4)})
	want(t, "Update of none", l, e, []api.Pair{one(4, "x")})
	l, e = index.Update("a", l, api.Change{Key: "x"})
	want(t, "Update of the last one", l, e, nil)
}

func TestUpdateTakesOutAllOfAKey(t *testing.T) {
	// Entries that no Build makes: a Val more than once, Keys that are no list's.
	var left []api.Pair
	for _, p := range many() {
		if p.Val != "v1" {
			left = append(left, p)
		}
	}
	l, e := index.Update("a", many(), api.Change{Key: "v1"})
	want(t, "Update", l, e, left)
	l, e = index.Update("a", many(), api.Change{Key: "v1", Has: true, Doc: a(1)})
	want(t, "Update", l, e, ordered(append(left, pair(t, "v1", rank.Num(1)))))
	// Its Key is not what is sought.
	l, e = index.Update("a", many(), api.Change{Key: "aa"})
	want(t, "Update", l, e, many())
}

func TestUpdateRefuses(t *testing.T) {
	good := api.Change{Key: "x", Has: true, Doc: a(1)}
	var bad []api.Change
	for _, k := range noKeys() {
		bad = append(bad, api.Change{Key: k}, api.Change{Key: k, Has: true, Doc: a(1)})
	}
	for _, d := range odd() {
		bad = append(bad, api.Change{Key: "x", Has: true, Doc: d})
	}
	for def, right := range defsRefused() {
		for _, c := range append(bad, good) {
			for _, entries := range append(noEntries(), nil, many()) {
				l, e := index.Update(def, entries, c)
				wantRefused(t, "Update("+def+")", l, e, right)
			}
		}
	}
	for _, c := range append(bad, good, api.Change{Key: "x"}) {
		for _, entries := range noEntries() {
			l, e := index.Update("a", entries, c)
			wantRefused(t, "Update", l, e, api.ErrArg)
		}
	}
	for _, c := range bad {
		for _, entries := range [][]api.Pair{nil, many()} {
			l, e := index.Update("a", entries, c)
			wantRefused(t, "Update", l, e, api.ErrArg)
		}
	}
	l, e := index.Update("a", nil, api.Change{Key: longest(), Has: true, Doc: full()})
	want(t, "Update of the longest key, the greatest document", l, e, []api.Pair{pair(t, longest(), rank.Num(0))})
}

// In3

// turned is the documents behind a change, each list new.
func turned(docs []api.Named, c api.Change) []api.Named {
	var l []api.Named
	for _, n := range docs {
		if n.Key != c.Key {
			l = append(l, n)
		}
	}
	if c.Has {
		l = append(l, named(c.Key, c.Doc))
	}
	slices.SortFunc(l, func(x, y api.Named) int { return strings.Compare(x.Key, y.Key) })
	return l
}

func TestUpdatedIsBuiltAnew(t *testing.T) {
	for _, def := range defs() {
		var docs []api.Named
		entries, e := index.Build(def, docs)
		want(t, "Build", entries, e, nil)
		state := 1
		for range 600 {
			state = (state*1103515245 + 12345) % (1 << 31)
			key, d, has := keys()[state>>8%13], some()[state>>16%16], state>>24%4 > 0
			c := api.Change{Key: key, Has: has}
			if has {
				c.Doc = d
			}
			docs = turned(docs, c)
			entries, e = index.Update(def, entries, c)
			right, wrong := index.Build(def, docs)
			if wrong != api.OK {
				t.Fatalf("Build(%s): error %d", def, wrong)
			}
			want(t, "Update("+def+")", entries, e, right)
		}
	}
}

// R3

func TestNothingIsShared(t *testing.T) {
	room := append(many(), api.Pair{Key: "\xff\xff", Val: "behind"})
	entries := room[:len(many())]
	docs := []api.Named{named("x", a(2)), named("y", full())}
	change := api.Change{Key: "v1", Has: true, Doc: a(1)}
	call := func() [][]api.Pair {
		b, _ := index.Build("a", docs)
		u, _ := index.Update("a", entries, change)
		gone, _ := index.Update("a", entries, api.Change{Key: "nowhere"})
		f, _ := index.Find(entries, "", "", math.MaxInt)
		part, _ := index.Find(entries, "a", "b", 2)
		return [][]api.Pair{b, u, gone, f, part}
	}
	first, second := call(), call()
	for _, l := range first {
		l = l[:cap(l)]
		for i := range l {
			l[i] = api.Pair{Key: "spoilt", Val: "spoilt"}
		}
	}
	if !reflect.DeepEqual(second, call()) {
		t.Error("an answer that is turned turns another one")
	}
	if !slices.Equal(room, append(many(), api.Pair{Key: "\xff\xff", Val: "behind"})) {
		t.Errorf("entries were turned: %q", room)
	}
	if !reflect.DeepEqual(docs, []api.Named{named("x", a(2)), named("y", full())}) {
		t.Errorf("documents were turned: %v", docs)
	}
	if !reflect.DeepEqual(change, api.Change{Key: "v1", Has: true, Doc: a(1)}) {
		t.Errorf("the change was turned: %v", change)
	}
}

func TestUpdateDoesNotTurnItsEntries(t *testing.T) {
	for i := range many() {
		entries := many()
		index.Update("a", entries, api.Change{Key: entries[i].Val, Has: true, Doc: a(1)})
		index.Update("a", entries, api.Change{Key: entries[i].Val})
		if !slices.Equal(entries, many()) {
			t.Fatalf("entries were turned: %q", entries)
		}
	}
}
