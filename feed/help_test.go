package feed_test

import (
	"math"
	"reflect"
	"slices"
	"strings"
	"testing"

	"tailrace/api"
	"tailrace/feed"
	"tailrace/rank"
)

func doc(fields ...api.Field) api.Doc { return fields }

func field(path string, v api.Value) api.Field { return api.Field{Path: path, Val: v} }

// a is a document of one number.
func a(n int) api.Doc { return doc(field("a", rank.Num(n))) }

func stands(pos int, key string, d api.Doc) api.Change {
	return api.Change{Pos: pos, Key: key, Has: true, Doc: d}
}

func gone(pos int, key string) api.Change { return api.Change{Pos: pos, Key: key} }

func sub(name string, pos int) api.Sub { return api.Sub{Name: name, Pos: pos} }

// longest is a key as long as one may be.
func longest() string { return strings.Repeat("\xff", api.MaxKey) }

// keys are keys by rising bytes, whose order by runes, letters or lengths is another one.
func keys() []string {
	return []string{"\x00", "\x00\x00", "10", "9", "B", "a", "a\x00", "aa", "b", "\xee\x80\x80", "\xf0\x90\x80\x80", "\xff", longest()}
}

// noKeys are texts that are no keys.
func noKeys() []string { return []string{"", longest() + "x", strings.Repeat("k", 1000)} }

// greatest is the greatest document there is.
func greatest() api.Doc {
	var d api.Doc
	for i := range api.MaxFields {
		path := string(rune('a'+i)) + strings.Repeat("x", api.MaxKey-1)
		d = append(d, field(path, rank.Text(strings.Repeat("\xff", api.MaxText))))
	}
	return d
}

// odd are documents that may not be.
func odd() []api.Doc {
	return []api.Doc{
		doc(field("", rank.Num(1))),
		doc(field("A", rank.Num(1))),
		doc(api.Field{Path: "a"}),
		doc(field("a", api.Value{Kind: 4})),
		doc(field("a", rank.Num(api.MaxNum+1))),
		doc(field("a", rank.Text(strings.Repeat("x", api.MaxText+1)))),
		doc(field("a", rank.Point(0, -api.MaxPart-1))),
		doc(field("b", rank.Num(1)), field("a", rank.Num(1))),
		doc(field("a", rank.Num(1)), field("a", rank.Num(1))),
		append(greatest(), field("z", rank.Num(1))),
	}
}

// nth is the change at a Pos: every third one is of what is gone, every
// seventh one of an empty document; their keys are in no order.
func nth(pos int) api.Change {
	k := keys()[pos*5%len(keys())]
	switch {
	case pos%3 == 0:
		return gone(pos, k)
	case pos%7 == 0:
		return stands(pos, k, nil)
	}
	return stands(pos, k, a(pos))
}

// news is the changes behind a place, up to another one.
func news(from, to int) []api.Change {
	var l []api.Change
	for pos := from + 1; pos <= to; pos++ {
		l = append(l, nth(pos))
	}
	return l
}

func feedOf(base, total int, subs ...api.Sub) api.Feed {
	return api.Feed{Base: base, Total: total, Changes: news(base, total), Subs: subs}
}

// subsAt is as many subscriptions as there may be, at one place.
func subsAt(pos int) []api.Sub {
	var l []api.Sub
	for i := range api.MaxSubs {
		l = append(l, sub("s"+string(rune('0'+i)), pos))
	}
	return l
}

// feeds are those that may be: all of three changes at most, behind two at
// most, with some of three names, each at each place it may be at.
func feeds() []api.Feed {
	var out []api.Feed
	for base := range 3 {
		for total := base; total <= base+3; total++ {
			lists := [][]api.Sub{nil}
			for _, name := range []string{"a", "a\x00", "b"} {
				for _, l := range lists {
					for pos := base; pos <= total; pos++ {
						lists = append(lists, append(slices.Clone(l), sub(name, pos)))
					}
				}
			}
			for _, l := range lists {
				out = append(out, feedOf(base, total, l...))
			}
		}
	}
	return out
}

// edges are feeds that may be, at what the limits let them.
func edges() []api.Feed {
	const top = api.MaxCount
	var named []api.Sub
	for i, k := range keys()[:api.MaxSubs] {
		named = append(named, sub(k, 2+i%4))
	}
	var last []api.Sub
	for i, k := range keys()[len(keys())-api.MaxSubs:] {
		last = append(last, sub(k, 5-i%4))
	}
	return []api.Feed{
		{},
		{Changes: []api.Change{}, Subs: []api.Sub{}},
		{Base: top, Total: top},
		{Base: top, Total: top, Subs: []api.Sub{sub("a", top)}},
		feedOf(top-2, top, sub("a", top-2), sub("b", top-1), sub("c", top)),
		feedOf(2, 5, named...),
		feedOf(2, 5, last...),
		feedOf(0, 40, subsAt(0)...),
		feedOf(5, 40, subsAt(40)...),
		feedOf(5, 40, subsAt(17)[:7]...),
		{Total: 3, Changes: []api.Change{stands(1, longest(), greatest()), stands(2, "\x00", api.Doc{}), {Pos: 3, Key: "a", Doc: api.Doc{}}}},
	}
}

// noFeeds are those that may not be, each for one reason, wherever that is.
func noFeeds() []api.Feed {
	const top = api.MaxCount
	l := []api.Feed{
		{Base: -1, Total: -1},
		{Base: -1, Changes: []api.Change{nth(0)}},
		{Base: math.MinInt, Total: math.MinInt},
		{Base: math.MinInt, Total: math.MaxInt},
		{Base: 1},
		{Base: 3, Total: 2},
		{Base: top, Total: 0},
		{Total: math.MinInt},
		{Base: top + 1, Total: top + 1},
		{Base: math.MaxInt, Total: math.MaxInt},
		feedOf(top, top+1),
		feedOf(top-2, top+1),
		{Total: 1},
		{Total: top},
		{Base: 2, Total: 5, Changes: news(2, 4)},
		{Base: 2, Total: 5, Changes: news(3, 5)},
		{Base: 2, Total: 5, Changes: news(2, 6)},
		{Base: 2, Total: 5, Changes: news(1, 5)},
		{Base: 2, Total: 5, Changes: news(1, 4)},
		{Base: 2, Total: 5, Changes: news(3, 6)},
		{Base: 2, Total: 5, Changes: news(0, 3)},
		{Base: 2, Total: 2, Changes: news(2, 3)},
		{Total: 2, Changes: []api.Change{nth(2), nth(1)}},
		{Total: 2, Changes: []api.Change{nth(1), nth(1)}},
		{Total: 3, Changes: []api.Change{nth(1), nth(2), nth(4)}},
		{Total: 3, Changes: []api.Change{nth(1), nth(3), nth(3)}},
		{Total: 1, Changes: []api.Change{{Pos: 1}}},
		feedOf(2, 5, append(subsAt(3), sub("z", 3))...),
	}
	for _, c := range badNews(2) {
		l = append(l, api.Feed{Base: 2, Total: 3, Changes: []api.Change{c}})
		for at := 3; at <= 5; at++ {
			f := feedOf(2, 5)
			c.Pos = at
			f.Changes[at-3] = c
			l = append(l, f)
		}
	}
	for _, subs := range noSubs() {
		l = append(l, feedOf(2, 5, subs...))
	}
	return l
}

// badNews are changes at the Pos behind a place that may not be.
func badNews(total int) []api.Change {
	var l []api.Change
	for _, k := range noKeys() {
		l = append(l, gone(total+1, k), stands(total+1, k, a(1)))
	}
	for _, d := range odd() {
		l = append(l, stands(total+1, "k", d), api.Change{Pos: total + 1, Key: "k", Doc: d})
	}
	return append(l, api.Change{Pos: total + 1, Key: "k", Doc: a(1)}, api.Change{Pos: total + 1, Key: "k", Doc: greatest()})
}

// noSubs are subscriptions that may not be of a feed from 2 to 5.
func noSubs() [][]api.Sub {
	l := [][]api.Sub{
		{sub("b", 3), sub("a", 3)},
		{sub("a", 3), sub("a", 3)},
		{sub("a", 3), sub("a", 4)},
		{sub("a", 3), sub("c", 3), sub("b", 3)},
		{sub("a", 3), sub("b", 3), sub("a", 3)},
		{sub("a", 3), sub("b", 3), sub("b", 3)},
		{sub("aa", 3), sub("a", 3)},
		{sub("9", 3), sub("10", 3)},
		{sub("\xf0\x90\x80\x80", 3), sub("\xee\x80\x80", 3)},
		{{}},
		make([]api.Sub, 100),
	}
	for _, k := range noKeys() {
		l = append(l, []api.Sub{sub(k, 3)}, []api.Sub{sub(k, 3), sub(k+"z", 3)}, []api.Sub{sub("\x00", 3), sub(k, 3)})
	}
	for _, pos := range []int{1, 0, -1, 6, math.MinInt, math.MaxInt, api.MaxCount} {
		l = append(l, []api.Sub{sub("a", pos)}, []api.Sub{sub("a", pos), sub("b", 3)}, []api.Sub{sub("a", 3), sub("b", pos)})
	}
	return l
}

// places are numbers about a feed's ends, and far off.
func places(f api.Feed) []int {
	l := []int{math.MinInt, -1, 0, 1, math.MaxInt, api.MaxCount, api.MaxCount + 1}
	for d := -2; d <= 5; d++ {
		l = append(l, f.Base+d, f.Total+d)
	}
	return l
}

// names are those of a feed, others ahead, between and behind, and what is none.
func names(f api.Feed) []string {
	l := append([]string{"\x00", "A", "a", "a\x00", "aa", "b", "s4", "t", longest()}, noKeys()...)
	for _, s := range f.Subs {
		l = append(l, s.Name)
	}
	return l
}

// plain is a feed with nil for each empty list, so that feeds can be held
// against each other by another way than the program's.
func plain(f api.Feed) api.Feed {
	f.Changes = plainNews(f.Changes)
	f.Subs = append([]api.Sub(nil), f.Subs...)
	return f
}

func plainNews(l []api.Change) []api.Change {
	var out []api.Change
	for _, c := range l {
		c.Doc = append(api.Doc(nil), c.Doc...)
		out = append(out, c)
	}
	return out
}

func sameFeed(x, y api.Feed) bool { return reflect.DeepEqual(plain(x), plain(y)) }

func sameNews(x, y []api.Change) bool { return reflect.DeepEqual(plainNews(x), plainNews(y)) }

// place is where a subscription is in a feed, if it is there.
func place(f api.Feed, name string) (int, bool) {
	for _, s := range f.Subs {
		if s.Name == name {
			return s.Pos, true
		}
	}
	return 0, false
}

// with is a feed with a subscription at a place, by another way than the program's.
func with(f api.Feed, name string, pos int) api.Feed {
	f = without(f, name)
	f.Subs = append(f.Subs, sub(name, pos))
	slices.SortFunc(f.Subs, func(x, y api.Sub) int { return strings.Compare(x.Name, y.Name) })
	return f
}

func without(f api.Feed, name string) api.Feed {
	var l []api.Sub
	for _, s := range f.Subs {
		if s.Name != name {
			l = append(l, s)
		}
	}
	f.Subs = l
	return f
}

// between is a feed's changes behind a place, most at most, one by one.
func between(f api.Feed, from, most int) []api.Change {
	var l []api.Change
	for _, c := range f.Changes {
		if c.Pos > from && len(l) < most {
			l = append(l, c)
		}
	}
	return l
}

// want holds a feed that is told, and its error, against what must be; what is
// told may be, beside each error too.
func want(t *testing.T, got api.Feed, e api.Errno, right api.Feed, rightE api.Errno, what ...any) {
	t.Helper()
	if e != rightE || !sameFeed(got, right) {
		t.Fatalf("%+v: %+v, error %d; want %+v, error %d", what, got, e, right, rightE)
	}
	if feed.Check(got) != api.OK {
		t.Fatalf("%+v: %+v may not be", what, got)
	}
}

func wantNews(t *testing.T, got []api.Change, e api.Errno, right []api.Change, rightE api.Errno, what ...any) {
	t.Helper()
	if e != rightE || !sameNews(got, right) {
		t.Fatalf("%+v: %+v, error %d; want %+v, error %d", what, got, e, right, rightE)
	}
}
