package feed_test

import (
	"math"
	"slices"
	"testing"

	"tailrace/api"
	"tailrace/feed"
	"tailrace/rank"
)

func TestTheExample(t *testing.T) {
	f, e := feed.Trim(feedOf(0, 5, sub("a", 2)), 4)
	want(t, f, e, feedOf(2, 5, sub("a", 2)), api.OK, "Trim")
}

// Fe1

func TestCheck(t *testing.T) {
	for _, f := range append(feeds(), edges()...) {
		if e := feed.Check(f); e != api.OK {
			t.Errorf("Check(%+v): error %d", f, e)
		}
	}
	for _, f := range noFeeds() {
		if e := feed.Check(f); e != api.ErrArg {
			t.Errorf("Check(%+v): error %d", f, e)
		}
	}
	good := edges()[5]
	for i := range len(good.Subs) - 1 {
		f := plain(good)
		f.Subs[i], f.Subs[i+1] = f.Subs[i+1], f.Subs[i]
		if e := feed.Check(f); e != api.ErrArg {
			t.Errorf("Check, the names at %d being out of order: error %d", i, e)
		}
	}
}

func TestAllRefuseFeedsThatMayNotBe(t *testing.T) {
	for _, f := range noFeeds() {
		// What the others would be refused for comes behind.
		for _, name := range []string{"a", "new", ""} {
			for _, n := range []int{3, 4, 0, -1, 17, math.MaxInt} {
				zero := func(what string, g api.Feed, e api.Errno) {
					want(t, g, e, api.Feed{}, api.ErrArg, what, f)
				}
				for _, l := range [][]api.Change{nil, news(5, 7), {gone(n, name)}} {
					g, e := feed.Add(f, l)
					zero("Add", g, e)
				}
				g, e := feed.Open(f, name, n)
				zero("Open", g, e)
				g, e = feed.Ack(f, name, n)
				zero("Ack", g, e)
				g, e = feed.Close(f, name)
				zero("Close", g, e)
				g, e = feed.Trim(f, n)
				zero("Trim", g, e)
				l, at, e := feed.Read(f, name, n)
				if wantNews(t, l, e, nil, api.ErrArg, "Read"); at != 0 {
					t.Fatalf("Read: at %d", at)
				}
				l, e = feed.Pull(f, n, 3)
				wantNews(t, l, e, nil, api.ErrArg, "Pull")
			}
		}
	}
}

func TestAdd(t *testing.T) {
	for _, f := range append(feeds(), edges()...) {
		for _, n := range []int{0, 1, 2, 5, 40} {
			g, e := feed.Add(f, news(f.Total, f.Total+n))
			if f.Total+n > api.MaxCount {
				want(t, g, e, f, api.ErrArg, "Add of too many")
				continue
			}
			right := plain(f)
			right.Total += n
			for i := range n {
				right.Changes = append(right.Changes, nth(f.Total+1+i))
			}
			want(t, g, e, right, api.OK, "Add")
		}
	}
}

func TestAddAtTheGreatestCount(t *testing.T) {
	const top = api.MaxCount
	for left := range 4 {
		f := feedOf(top-left-2, top-left, sub("a", top-left-1))
		for n := range 7 {
			g, e := feed.Add(f, news(top-left, top-left+n))
			if n <= left {
				want(t, g, e, feedOf(top-left-2, top-left+n, f.Subs...), api.OK, "Add up to the end")
			} else {
				want(t, g, e, f, api.ErrArg, "Add beyond the end")
			}
		}
	}
}

func TestAddRefuses(t *testing.T) {
	for _, f := range []api.Feed{{}, feedOf(2, 5), feedOf(2, 5, sub("a", 2), sub("b", 5)), feedOf(0, 20, subsAt(3)...)} {
		n := f.Total
		lists := [][]api.Change{
			{gone(n, "k")}, {gone(n, "k"), nth(n + 1), nth(n + 2)}, news(n+1, n+2), news(n+1, n+4),
			{gone(0, "k")}, {gone(-1, "k")}, {gone(math.MaxInt, "k")}, {gone(math.MinInt, "k")}, {{}},
			{nth(n + 1), nth(n + 1)}, {nth(n + 1), nth(n + 3)}, {nth(n + 2), nth(n + 1)}, {nth(n + 1), nth(n + 2), nth(n + 2)},
			{nth(n + 1), nth(n + 2), gone(1, "k")}, {nth(n + 1), gone(math.MinInt, "k")},
		}
		for _, c := range badNews(n) {
			lists = append(lists, []api.Change{c}, []api.Change{c, nth(n + 2)})
			c.Pos++
			lists = append(lists, []api.Change{nth(n + 1), c}, []api.Change{nth(n + 1), c, nth(n + 3)})
		}
		for _, l := range lists {
			g, e := feed.Add(f, l)
			want(t, g, e, f, api.ErrArg, "Add", l)
		}
	}
}

// What would mend a feed that may not be does not.
func TestAddOfWhatIsMissing(t *testing.T) {
	for _, f := range []api.Feed{{Total: 2, Changes: news(0, 1)}, {Total: 2}, {Base: 2, Total: 5, Changes: news(2, 3)}, {Base: 3, Total: 2}} {
		for from := range 7 {
			for to := from; to < 8; to++ {
				g, e := feed.Add(f, news(from, to))
				want(t, g, e, api.Feed{}, api.ErrArg, "Add")
			}
		}
	}
}

func TestSame(t *testing.T) {
	unlike := []api.Feed{
		{}, {Base: 1}, {Base: -1}, {Total: 1}, {Total: -1}, {Base: 1, Total: 1}, {Base: math.MaxInt, Total: math.MinInt},
		{Changes: []api.Change{{}}}, {Changes: []api.Change{{}, {}}}, {Changes: []api.Change{gone(1, "")}}, {Changes: []api.Change{gone(0, "x")}},
		{Changes: []api.Change{stands(0, "", nil)}}, {Changes: []api.Change{stands(0, "", a(1))}}, {Changes: []api.Change{stands(0, "", a(2))}},
		{Changes: []api.Change{{Doc: a(1)}}}, {Changes: []api.Change{{Doc: odd()[0]}}}, {Changes: []api.Change{stands(0, "", doc(field("a", rank.Num(1)), field("b", rank.Num(1))))}},
		{Changes: []api.Change{gone(1, "x"), gone(2, "y")}}, {Changes: []api.Change{gone(2, "y"), gone(1, "x")}}, {Changes: []api.Change{gone(1, "x"), gone(2, "x")}},
		{Subs: []api.Sub{{}}}, {Subs: []api.Sub{{}, {}}}, {Subs: []api.Sub{sub("a", 0)}}, {Subs: []api.Sub{sub("", 1)}}, {Subs: []api.Sub{sub("a", 1)}},
		{Subs: []api.Sub{sub("a", 1), sub("b", 1)}}, {Subs: []api.Sub{sub("b", 1), sub("a", 1)}}, {Subs: []api.Sub{sub("a", 1), sub("b", 2)}},
		feedOf(0, 5), feedOf(1, 5), feedOf(0, 4), feedOf(0, 5, sub("a", 3)), feedOf(0, 5, sub("a", 4)), feedOf(0, 5, sub("b", 3)),
	}
	for i, x := range unlike {
		for j, y := range unlike {
			if feed.Same(x, plain(y)) != (i == j) {
				t.Errorf("Same of %d and %d is %t", i, j, i != j)
			}
		}
	}
	empty := api.Feed{Changes: []api.Change{}, Subs: []api.Sub{}}
	if !feed.Same(empty, api.Feed{}) || !feed.Same(api.Feed{}, empty) {
		t.Error("an empty list is not as none")
	}
	within := api.Feed{Changes: []api.Change{{Key: "x", Doc: api.Doc{}}}}
	if !feed.Same(within, api.Feed{Changes: []api.Change{{Key: "x"}}}) {
		t.Error("an empty document is not as none")
	}
	room := api.Feed{Total: 2, Changes: news(0, 5)[:2], Subs: subsAt(1)[:2]}
	if !feed.Same(room, feedOf(0, 2, sub("s0", 1), sub("s1", 1))) {
		t.Error("what lies behind a list's end makes a difference")
	}
}

// Fe2

// opened is what Open tells, as the chapter has it.
func opened(f api.Feed, name string, pos int) (api.Feed, api.Errno) {
	if slices.Contains(noKeys(), name) || pos < 0 || pos > f.Total {
		return f, api.ErrArg
	}
	if _, has := place(f, name); has {
		return f, api.ErrSame
	}
	if len(f.Subs) == 8 {
		return f, api.ErrFull
	}
	if pos < f.Base {
		return f, api.ErrOld
	}
	return with(f, name, pos), api.OK
}

func TestOpen(t *testing.T) {
	told := map[api.Errno]int{}
	for _, f := range append(feeds(), edges()...) {
		for _, name := range names(f) {
			for _, pos := range places(f) {
				right, rightE := opened(f, name, pos)
				g, e := feed.Open(f, name, pos)
				want(t, g, e, right, rightE, "Open", f, name, pos)
				told[e]++
			}
		}
	}
	wantTold(t, told, api.OK, api.ErrArg, api.ErrSame, api.ErrFull, api.ErrOld)
}

// Each error comes ahead of those that the chapter names behind it.
func TestOpenTellsTheFirstError(t *testing.T) {
	full, room := feedOf(3, 6, subsAt(4)...), feedOf(3, 6, sub("a", 4))
	for _, c := range []struct {
		what  string
		f     api.Feed
		name  string
		pos   int
		right api.Errno
	}{
		{"no key, 8, old", full, "", 1, api.ErrArg},
		{"a key too long, 8, old", full, longest() + "x", 1, api.ErrArg},
		{"beyond, the same", room, "a", 7, api.ErrArg},
		{"below 0, the same, 8", full, "s0", -1, api.ErrArg},
		{"beyond, 8", full, "z", 7, api.ErrArg},
		{"the same, 8, old", full, "s7", 2, api.ErrSame},
		{"the same, 8", full, "s0", 4, api.ErrSame},
		{"the same, old", room, "a", 0, api.ErrSame},
		{"8, old", full, "z", 0, api.ErrFull},
		{"8", full, "z", 6, api.ErrFull},
		{"old", room, "z", 2, api.ErrOld},
		{"old", room, "z", 0, api.ErrOld},
	} {
		g, e := feed.Open(c.f, c.name, c.pos)
		want(t, g, e, c.f, c.right, c.what)
	}
	g, e := feed.Open(room, "Z", 3)
	want(t, g, e, feedOf(3, 6, sub("Z", 3), sub("a", 4)), api.OK, "at Base")
	g, e = feed.Open(room, longest(), 6)
	want(t, g, e, feedOf(3, 6, sub("a", 4), sub(longest(), 6)), api.OK, "at Total")
	g, e = feed.Open(feedOf(3, 6, full.Subs[:7]...), "s7", 4)
	want(t, g, e, full, api.OK, "the eighth")
}

func TestAck(t *testing.T) {
	told := map[api.Errno]int{}
	for _, f := range append(feeds(), edges()...) {
		for _, name := range names(f) {
			for _, pos := range places(f) {
				right, rightE := f, api.OK
				at, has := place(f, name)
				switch {
				case !has:
					rightE = api.ErrNone
				case pos > f.Total:
					rightE = api.ErrArg
				case pos < at:
					rightE = api.ErrOld
				default:
					right = with(f, name, pos)
				}
				g, e := feed.Ack(f, name, pos)
				want(t, g, e, right, rightE, "Ack", f, name, pos)
				told[e]++
			}
		}
	}
	wantTold(t, told, api.OK, api.ErrNone, api.ErrArg, api.ErrOld)
}

func TestClose(t *testing.T) {
	told := map[api.Errno]int{}
	for _, f := range append(feeds(), edges()...) {
		for _, name := range names(f) {
			right, rightE := without(f, name), api.OK
			if _, has := place(f, name); !has {
				rightE = api.ErrNone
			}
			g, e := feed.Close(f, name)
			want(t, g, e, right, rightE, "Close", f, name)
			told[e]++
		}
	}
	wantTold(t, told, api.OK, api.ErrNone)
}

// trimmed forgets one change after the other, as long as nobody wants it.
func trimmed(f api.Feed, pos int) api.Feed {
	f = plain(f)
	for f.Base < pos && f.Base < f.Total {
		if slices.ContainsFunc(f.Subs, func(s api.Sub) bool { return s.Pos == f.Base }) {
			break
		}
		f.Base++
		f.Changes = f.Changes[1:]
	}
	return f
}

func TestTrim(t *testing.T) {
	shorter := 0
	for _, f := range append(feeds(), edges()...) {
		for _, pos := range places(f) {
			g, e := feed.Trim(f, pos)
			want(t, g, e, trimmed(f, pos), api.OK, "Trim", f, pos)
			if g.Base > f.Base {
				shorter++
			}
		}
	}
	if shorter < 100 {
		t.Errorf("%d were shorter", shorter)
	}
}

func TestTrimEdges(t *testing.T) {
	for _, c := range []struct {
		what  string
		f     api.Feed
		pos   int
		right int
	}{
		{"without subscriptions", feedOf(2, 9), 5, 5},
		{"to Total", feedOf(2, 9), 9, 9},
		{"beyond Total", feedOf(2, 9), 10, 9},
		{"far beyond Total", feedOf(2, 9), math.MaxInt, 9},
		{"at Base", feedOf(2, 9), 2, 2},
		{"below Base", feedOf(2, 9), 1, 2},
		{"below 0", feedOf(2, 9), math.MinInt, 2},
		{"up to the least of all", feedOf(2, 9, sub("a", 7), sub("b", 4), sub("c", 8)), 9, 4},
		{"one at Base", feedOf(2, 9, sub("a", 7), sub("b", 2)), 9, 2},
		{"below the least of all", feedOf(2, 9, sub("a", 7), sub("b", 5)), 4, 4},
		{"all at Total", feedOf(2, 9, sub("a", 9), sub("b", 9)), 12, 9},
	} {
		g, e := feed.Trim(c.f, c.pos)
		want(t, g, e, feedOf(c.right, c.f.Total, c.f.Subs...), api.OK, c.what)
	}
}

// Fe3

func TestRead(t *testing.T) {
	told := map[api.Errno]int{}
	for _, f := range append(feeds(), edges()...) {
		for _, name := range names(f) {
			for _, most := range []int{math.MinInt, -1, 0, 1, 2, 3, 15, 16, 17, 40, math.MaxInt} {
				pos, has := place(f, name)
				right, rightE := between(f, pos, most), api.OK
				if !has {
					right, rightE = nil, api.ErrNone
				} else if most < 1 || most > 16 {
					right, pos, rightE = nil, 0, api.ErrArg
				}
				l, at, e := feed.Read(f, name, most)
				if wantNews(t, l, e, right, rightE, "Read", f, name, most); at != pos {
					t.Fatalf("Read(%+v, %q, %d): at %d, want %d", f, name, most, at, pos)
				}
				told[e]++
			}
		}
	}
	wantTold(t, told, api.OK, api.ErrNone, api.ErrArg)
}

func TestReadEdges(t *testing.T) {
	f := feedOf(5, 40, sub("a", 5), sub("b", 24), sub("c", 25), sub("d", 39), sub("e", 40))
	for _, c := range []struct {
		name     string
		most     int
		from, to int
	}{
		{"a", 16, 5, 21}, {"a", 15, 5, 20}, {"a", 1, 5, 6}, {"b", 16, 24, 40}, {"b", 15, 24, 39}, {"c", 16, 25, 40}, {"d", 1, 39, 40}, {"d", 16, 39, 40}, {"e", 1, 40, 40}, {"e", 16, 40, 40},
	} {
		l, at, e := feed.Read(f, c.name, c.most)
		if wantNews(t, l, e, news(c.from, c.to), api.OK, "Read of "+c.name); at != c.from {
			t.Errorf("Read of %s: at %d", c.name, at)
		}
		l, e = feed.Pull(f, c.from, c.most)
		wantNews(t, l, e, news(c.from, c.to), api.OK, "Pull")
	}
	// That there is none comes ahead of how many are asked for.
	for _, most := range []int{0, 17} {
		if _, _, e := feed.Read(f, "z", most); e != api.ErrNone {
			t.Errorf("Read of none, %d: error %d", most, e)
		}
	}
}

func TestPull(t *testing.T) {
	told := map[api.Errno]int{}
	for _, f := range append(feeds(), edges()...) {
		for _, from := range places(f) {
			for _, most := range []int{math.MinInt, -1, 0, 1, 2, 3, 15, 16, 17, 40, math.MaxInt} {
				right, rightE := []api.Change(nil), api.OK
				switch {
				case most < 1, most > 16, from < 0, from > f.Total:
					rightE = api.ErrArg
				case from < f.Base:
					rightE = api.ErrOld
				default:
					right = between(f, from, most)
				}
				l, e := feed.Pull(f, from, most)
				wantNews(t, l, e, right, rightE, "Pull", f, from, most)
				told[e]++
			}
		}
	}
	wantTold(t, told, api.OK, api.ErrArg, api.ErrOld)
	// How many are asked for comes ahead of what is forgotten.
	for _, most := range []int{0, 17} {
		if _, e := feed.Pull(feedOf(2, 5), 1, most); e != api.ErrArg {
			t.Errorf("Pull of what is forgotten, %d: error %d", most, e)
		}
	}
}

// wantTold asks for each error to have been told often enough.
func wantTold(t *testing.T, told map[api.Errno]int, all ...api.Errno) {
	t.Helper()
	for _, e := range all {
		if told[e] < 20 {
			t.Errorf("error %d was told %d times", e, told[e])
		}
	}
	if len(told) != len(all) {
		t.Errorf("errors were told that are none of these: %v", told)
	}
}
