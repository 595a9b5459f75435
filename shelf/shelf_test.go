package shelf_test

import (
	"math"
	"slices"
	"testing"

	"tailrace/api"
	"tailrace/index"
	"tailrace/rank"
	"tailrace/shelf"
)

func TestTheExample(t *testing.T) {
	s, e := shelf.New("a")
	if e != api.OK {
		t.Fatalf("New: error %d", e)
	}
	want(t, s, find("", "", 24, 0), s, code(api.ErrWait))
}

// Se1: New, Check, Same

func TestNew(t *testing.T) {
	for _, s := range shelves() {
		if got, e := shelf.New(s.Def); e != api.OK || !sameShelf(got, api.Shelf{Def: s.Def}) || shelf.Check(got) != api.OK {
			t.Errorf("New(%q) = %+v, error %d", s.Def, got, e)
		}
	}
	for def, right := range noDefs() {
		if got, e := shelf.New(def); e != right || !sameShelf(got, api.Shelf{}) {
			t.Errorf("New(%q) = %+v, error %d", def, got, e)
		}
	}
}

func TestCheck(t *testing.T) {
	for _, s := range shelves() {
		if e := shelf.Check(s); e != api.OK {
			t.Errorf("Check(%+v): error %d", s, e)
		}
	}
	for _, s := range noShelves() {
		if e := shelf.Check(s); e != api.ErrArg {
			t.Errorf("Check(%+v): error %d", s, e)
		}
	}
	for i := range 9 {
		s := of("a", 0, entries(10)...)
		s.Entries[i], s.Entries[i+1] = s.Entries[i+1], s.Entries[i]
		if e := shelf.Check(s); e != api.ErrArg {
			t.Errorf("Check, the entries at %d being out of order: error %d", i, e)
		}
	}
}

func TestApplyRefusesShelvesThatMayNotBe(t *testing.T) {
	for _, s := range noShelves() {
		for _, o := range asked(1) {
			then, told, e := shelf.Apply(s, o)
			if e != api.ErrArg || !sameShelf(then, api.Shelf{}) || !sameAnswer(told, api.Answer{}) {
				t.Fatalf("%+v of %+v: %+v, %+v, error %d", o, s, then, told, e)
			}
		}
	}
}

func TestSame(t *testing.T) {
	unlike := []api.Shelf{
		{}, {Ready: true}, {Mark: 1}, {Mark: -1}, {Def: "a"}, {Def: "b"}, {Def: "a", Ready: true}, {Def: "a", Mark: 1}, {Def: "a", Mark: 1, Ready: true},
		of("", 0, pair("", "")), of("", 0, pair("", ""), pair("", "")), of("", 0, pair("a", "")), of("", 0, pair("", "a")), of("", 0, pair("a", "b")), of("", 0, pair("b", "a")),
		of("", 0, pair("a", ""), pair("b", "")), of("", 0, pair("b", ""), pair("a", "")), of("a", 0, pair("a", "")), of("a", 3, entries(3)...), of("a", 3, entries(4)...), of("a", 3, entries(4)[1:]...),
	}
	for i, x := range unlike {
		for j, y := range unlike {
			if shelf.Same(x, plain(y)) != (i == j) {
				t.Errorf("Same of %d and %d is %t", i, j, i != j)
			}
		}
	}
	if none := (api.Shelf{Entries: []api.Pair{}}); !shelf.Same(none, api.Shelf{}) || !shelf.Same(api.Shelf{}, none) {
		t.Error("an empty list is not as none")
	}
	if !shelf.Same(of("a", 1, entries(5)[:2]...), of("a", 1, entries(2)...)) {
		t.Error("what lies behind a list's end makes a difference")
	}
}

// Se1: OpLoad

func TestLoad(t *testing.T) {
	s := of("a", 7, entries(3)...)
	x, y := named("x", a(2)), named("y", a(1))
	for _, n := range []int{7, 8, 100, api.MaxCount} {
		want(t, s, load(n, x, y, named("z", nil)), of("a", n, entry("y", rank.Num(1)), entry("x", rank.Num(2))), api.Answer{})
		want(t, readied(s), load(n, x), readied(of("a", n, entry("x", rank.Num(2)))), api.Answer{})
		want(t, s, load(n), of("a", n), api.Answer{})
	}
	for _, n := range []int{0, 1, 6} {
		want(t, s, load(n, x), s, code(api.ErrOld))
	}
	for _, n := range []int{-1, api.MaxCount + 1, math.MinInt, math.MaxInt} {
		want(t, s, load(n, x), s, code(api.ErrArg))
	}
	// More documents than a depot may have are documents all the same.
	want(t, s, load(9, row(100)...), of("a", 9, entries(100)...), api.Answer{})
}

func TestLoadRefusesDocumentsAheadOfWhatIsOld(t *testing.T) {
	s := readied(of("a", 7, entries(3)...))
	for _, docs := range noDocs() {
		for _, n := range []int{0, 6, 7, 8, -1, api.MaxCount + 1} {
			want(t, s, load(n, docs...), s, code(api.ErrArg))
		}
	}
}

// Se1: OpFeed

func TestFeed(t *testing.T) {
	s := of("a", 7, entries(2)...)
	one, two := entries(2)[0], entries(2)[1]
	want(t, s, feed(7), s, api.Answer{})
	want(t, s, feed(7, gone(8, "00000")), of("a", 8, two), api.Answer{})
	want(t, s, feed(7, gone(8, "nowhere")), of("a", 8, one, two), api.Answer{})
	want(t, s, feed(7, stands(8, "00000", nil)), of("a", 8, two), api.Answer{})
	want(t, s, feed(7, stands(8, "00000", a(1))), of("a", 8, pair(two.Key, "00000"), two), api.Answer{})
	want(t, s, feed(7, stands(8, "x", a(-1)), gone(9, "00001"), stands(10, "y", a(5)), gone(11, "y")), of("a", 11, entry("x", rank.Num(-1)), one), api.Answer{})
	want(t, readied(s), feed(7, gone(8, longest())), readied(of("a", 8, one, two)), api.Answer{})
	// The document of what is gone is not looked at.
	want(t, s, feed(7, api.Change{Pos: 8, Key: "00000", Doc: odd()[0]}), of("a", 8, two), api.Answer{})
	for n := range api.MaxNews + 1 {
		then, told, _ := shelf.Apply(s, feed(7, news(7, n)...))
		if told.Code != api.OK || then.Mark != 7+n {
			t.Errorf("%d changes: %+v, mark %d", n, told, then.Mark)
		}
	}
}

func TestFeedOfAnotherPlaceIsOld(t *testing.T) {
	s := readied(of("a", 7, entries(3)...))
	for _, n := range []int{0, 6, 8, 100, -1, -9, api.MaxCount, api.MaxCount + 1, math.MinInt, math.MaxInt} {
		want(t, s, feed(n), s, code(api.ErrOld))
	}
	for _, n := range []int{0, 6, 8, 100, -1, -9, api.MaxCount, api.MaxCount + 1, math.MinInt, math.MaxInt - 16} {
		for _, some := range []int{1, 2, 16} {
			want(t, s, feed(n, news(n, some)...), s, code(api.ErrOld))
		}
	}
}

func TestFeedRefusesChangesAheadOfAllElse(t *testing.T) {
	const top = api.MaxCount
	for _, mark := range []int{0, 7, 8, 9, top} {
		s := readied(of("a", mark, entries(3)...))
		for _, n := range []int{8, top} {
			for _, some := range noNews(n) {
				want(t, s, feed(n, some...), s, code(api.ErrArg))
			}
		}
	}
	s := of("a", 7)
	// No number is behind the greatest one.
	want(t, s, feed(math.MaxInt, gone(math.MinInt, "x")), s, code(api.ErrArg))
	want(t, s, feed(math.MaxInt-1, gone(math.MaxInt, "x"), gone(math.MinInt, "x")), s, code(api.ErrArg))
	want(t, s, feed(math.MinInt, gone(math.MaxInt, "x")), s, code(api.ErrArg))
}

func TestFeedAtTheGreatestMark(t *testing.T) {
	const top = api.MaxCount
	for left := range 20 {
		s := of("a", top-left, entries(2)...)
		for n := range api.MaxNews + 1 {
			o := feed(top-left, news(top-left, n)...)
			if n > left {
				want(t, s, o, s, code(api.ErrFull))
				want(t, readied(s), o, readied(s), code(api.ErrFull))
				continue
			}
			then, told, _ := shelf.Apply(s, o)
			if told.Code != api.OK || then.Mark != top-left+n {
				t.Errorf("%d left, %d more: %+v, mark %d", left, n, told, then.Mark)
			}
		}
	}
	s := of("a", top-3)
	want(t, s, feed(top, news(top, 1)...), s, code(api.ErrOld))
}

// Se1: OpReady, OpFind

func TestReady(t *testing.T) {
	for _, s := range shelves() {
		want(t, s, ready(), readied(s), api.Answer{})
	}
}

func TestFind(t *testing.T) {
	s := readied(of("a", 7, entries(40)...))
	for _, n := range []int{7, 6, 0, -1, math.MinInt} {
		want(t, s, find("", "", 24, n), s, api.Answer{Keys: entries(24), N: 7})
		want(t, s, find("", "", 1, n), s, api.Answer{Keys: entries(1), N: 7})
		want(t, s, find(key(rank.Num(9)), key(rank.Num(12)), 24, n), s, api.Answer{Keys: entries(12)[9:], N: 7})
		want(t, s, find(key(rank.Num(38)), "", 24, n), s, api.Answer{Keys: entries(40)[38:], N: 7})
		want(t, s, find("\xff", "", 24, n), s, api.Answer{N: 7})
		want(t, s, find("b", "a", 24, n), s, api.Answer{N: 7})
	}
	for _, n := range []int{8, 9, api.MaxCount, math.MaxInt} {
		want(t, s, find("", "", 24, n), s, code(api.ErrWait))
	}
	none := s
	none.Ready = false
	for _, n := range []int{-1, 0, 7, 8} {
		want(t, none, find("", "", 24, n), none, code(api.ErrWait))
	}
	for _, most := range []int{0, -1, 25, 26, math.MinInt, math.MaxInt} {
		for _, n := range []int{0, 7, 8} {
			want(t, s, find("", "", most, n), s, code(api.ErrArg))
			want(t, none, find("", "", most, n), none, code(api.ErrArg))
		}
	}
	for most := 1; most <= 24; most++ {
		want(t, s, find(key(rank.Num(3)), "", most, 7), s, api.Answer{Keys: entries(40)[3 : 3+most], N: 7})
	}
}

func TestOtherKinds(t *testing.T) {
	for _, s := range shelves() {
		for _, o := range others() {
			want(t, s, o, s, code(api.ErrArg))
		}
	}
}

// Se1: all of it

// by is what comes of what is asked, as layer 11 tells it.
func by(s api.Shelf, o api.Op) (api.Shelf, api.Answer) {
	refused := func(e api.Errno) (api.Shelf, api.Answer) { return s, code(e) }
	then := plain(s)
	switch o.Kind {
	case api.OpLoad:
		l, e := index.Build(s.Def, o.Docs)
		switch {
		case e != api.OK || o.N < 0 || o.N > 2147483647:
			return refused(api.ErrArg)
		case o.N < s.Mark:
			return refused(api.ErrOld)
		}
		then.Entries, then.Mark = l, o.N
	case api.OpFeed:
		if len(o.News) > 16 {
			return refused(api.ErrArg)
		}
		for i, c := range o.News {
			if _, e := index.Update(s.Def, nil, c); e != api.OK || c.Pos != o.N+1+i || c.Pos < o.N {
				return refused(api.ErrArg)
			}
		}
		switch {
		case o.N != s.Mark:
			return refused(api.ErrOld)
		case s.Mark+len(o.News) > 2147483647:
			return refused(api.ErrFull)
		}
		for _, c := range o.News {
			then.Entries, _ = index.Update(s.Def, then.Entries, c)
			then.Mark++
		}
	case api.OpReady:
		then.Ready = true
	case api.OpFind:
		switch {
		case o.Most < 1 || o.Most > 24:
			return refused(api.ErrArg)
		case !s.Ready || o.N > s.Mark:
			return refused(api.ErrWait)
		}
		l, _ := index.Find(s.Entries, o.Key, o.To, o.Most)
		return s, api.Answer{Keys: l, N: s.Mark}
	default:
		return refused(api.ErrArg)
	}
	return then, api.Answer{}
}

func TestApply(t *testing.T) {
	told := map[api.Errno]int{}
	for _, s := range shelves() {
		for _, o := range asked(s.Mark) {
			then, right := by(s, o)
			want(t, s, o, then, right)
			want(t, s, dressed(o), then, right)
			told[right.Code]++
		}
	}
	for _, e := range []api.Errno{api.OK, api.ErrArg, api.ErrFull, api.ErrOld, api.ErrWait} {
		if told[e] < 5 {
			t.Errorf("code %d was told %d times", e, told[e])
		}
	}
}

// R3

// owner knows whose the pieces of memory are.
type owner struct {
	t     *testing.T
	taken map[any]string
}

func (o *owner) take(name string, place any) {
	if other, ok := o.taken[place]; ok {
		o.t.Errorf("%s and %s share memory", name, other)
	}
	o.taken[place] = name
}

// whole takes all elements of a list, and the room behind its end.
func whole[T any](o *owner, name string, l []T) []T {
	l = l[:cap(l)]
	for i := range l {
		o.take(name, &l[i])
	}
	return l
}

// behind is a list with things behind its end.
func behind[T any](l []T, things ...T) []T { return append(slices.Clone(l), things...)[:len(l)] }

func roomy() api.Shelf {
	return of("a", 7, behind(entries(5), pair("behind", ""), pair("", "behind"))...)
}

func roomyDoc(d api.Doc) api.Doc { return behind(d, a(-1)[0], a(-2)[0]) }

func roomyOp(o api.Op) api.Op {
	o.Docs, o.News = behind(o.Docs, named("behind", nil)), behind(o.News, gone(-1, "behind"))
	for i, n := range o.Docs {
		o.Docs[i].Doc = roomyDoc(n.Doc)
	}
	for i, c := range o.News {
		o.News[i].Doc = roomyDoc(c.Doc)
	}
	return o
}

func sameDoc(x, y api.Doc) bool { return slices.Equal(x[:cap(x)], y[:cap(y)]) }

// sameOp holds asks against each other, and what lies behind their lists' ends.
func sameOp(x, y api.Op) bool {
	return slices.EqualFunc(x.Docs[:cap(x.Docs)], y.Docs[:cap(y.Docs)], func(x, y api.Named) bool {
		return x.Key == y.Key && sameDoc(x.Doc, y.Doc)
	}) && slices.EqualFunc(x.News[:cap(x.News)], y.News[:cap(y.News)], func(x, y api.Change) bool {
		return x.Pos == y.Pos && x.Key == y.Key && x.Has == y.Has && sameDoc(x.Doc, y.Doc)
	})
}

func TestNothingIsShared(t *testing.T) {
	for _, o := range asked(7) {
		for _, is := range []bool{false, true} {
			s, o := roomy(), roomyOp(o)
			s.Ready = is
			own := owner{t, map[any]string{}}
			whole(&own, "the shelf", s.Entries)
			then, told, _ := shelf.Apply(s, o)
			whole(&own, "the shelf then", then.Entries)
			whole(&own, "the answer", told.Keys)
			right := roomy().Entries
			if !slices.Equal(s.Entries[:cap(s.Entries)], right[:cap(right)]) || !sameOp(o, roomyOp(o)) {
				t.Fatalf("%+v: what was handed in was turned: %+v", o, s)
			}
		}
	}
}
