package feed_test

import (
	"slices"
	"testing"

	"tailrace/api"
	"tailrace/feed"
)

// Fe4

// dice are numbers that go on from one to the next.
type dice int

func (d *dice) roll(n int) int {
	*d = (*d*1103515245 + 12345) % (1 << 31)
	return int(*d>>12) % n
}

// follower is who subscribes: where it was opened, and all it has read and acknowledged since.
type follower struct {
	from int
	had  []api.Change
}

// script is a feed, and what must be of it: all changes ever, and who follows.
type script struct {
	t    *testing.T
	d    dice
	f    api.Feed
	all  []api.Change
	who  map[string]follower
	told map[api.Errno]int
}

func (s *script) name() string { return string(rune('a' + s.d.roll(10))) }

// turned is the feed that a call told. Where it told an error, it is as it was.
func (s *script) turned(f api.Feed, e api.Errno) bool {
	s.t.Helper()
	if e != api.OK && !sameFeed(f, s.f) {
		s.t.Fatalf("error %d, and %+v turned to %+v", e, s.f, f)
	}
	s.f = f
	s.told[e]++
	return e == api.OK
}

func (s *script) add() {
	var l []api.Change
	for range s.d.roll(6) {
		l = append(l, nth(len(s.all)+len(l)+1))
	}
	if s.turned(feed.Add(s.f, l)) {
		s.all = append(s.all, l...)
	}
}

func (s *script) open() {
	name, pos := s.name(), s.d.roll(len(s.all)+2)
	if s.d.roll(2) == 0 {
		pos = len(s.all) - s.d.roll(5)
	}
	_, has := s.who[name]
	if !s.turned(feed.Open(s.f, name, pos)) {
		return
	}
	if has {
		s.t.Fatalf("%q was opened twice", name)
	}
	s.who[name] = follower{from: pos}
}

// follow reads, and acknowledges all or some of what was read.
func (s *script) follow() {
	name := s.name()
	w, has := s.who[name]
	l, at, e := feed.Read(s.f, name, 1+s.d.roll(16))
	if has != (e == api.OK) {
		s.t.Fatalf("Read of %q: error %d", name, e)
	}
	if !has {
		s.turned(feed.Ack(s.f, name, len(s.all)))
		return
	}
	if at != w.from+len(w.had) || len(l) == 0 && at != len(s.all) {
		s.t.Fatalf("%q is at %d, and reads %d of %d; opened at %d, it had %d", name, at, len(l), len(s.all), w.from, len(w.had))
	}
	l = l[:s.d.roll(len(l)+1)]
	if !s.turned(feed.Ack(s.f, name, at+len(l))) {
		s.t.Fatalf("Ack of what was read is refused")
	}
	w.had = append(w.had, l...)
	s.who[name] = w
}

// refuse acknowledges what is not to be.
func (s *script) refuse() {
	name := s.name()
	pos := len(s.all) + 1 + s.d.roll(3)
	if w, has := s.who[name]; has && s.d.roll(2) == 0 {
		pos = w.from + len(w.had) - 1 - s.d.roll(3)
	}
	if s.turned(feed.Ack(s.f, name, pos)) {
		s.t.Fatalf("Ack of %q at %d is done", name, pos)
	}
}

func (s *script) close() {
	name := s.name()
	if s.turned(feed.Close(s.f, name)) {
		delete(s.who, name)
	}
}

func (s *script) trim() {
	was, pos := s.f.Base, s.d.roll(len(s.all)+3)-1
	s.turned(feed.Trim(s.f, pos))
	if s.f.Base != was && s.f.Base > pos || s.f.Base < was {
		s.t.Fatalf("Trim(%d): Base %d, then %d", pos, was, s.f.Base)
	}
}

func (s *script) pull() {
	from, most := s.d.roll(len(s.all)+1), 1+s.d.roll(16)
	l, e := feed.Pull(s.f, from, most)
	if e == api.OK && !sameNews(l, s.all[from:min(from+most, len(s.all))]) || (e == api.ErrOld) != (from < s.f.Base) {
		s.t.Fatalf("Pull(%d, %d), Base %d: %v, error %d", from, most, s.f.Base, l, e)
	}
}

func (s *script) step() {
	switch s.d.roll(16) {
	case 0, 1, 2:
		s.add()
	case 3, 4, 5:
		s.open()
	case 6:
		s.refuse()
	case 7:
		s.close()
	case 8, 9:
		s.trim()
	case 10:
		s.pull()
	default:
		s.follow()
	}
}

// check holds the feed against what must be of it.
func (s *script) check() {
	s.t.Helper()
	if e := feed.Check(s.f); e != api.OK {
		s.t.Fatalf("Check(%+v): error %d", s.f, e)
	}
	if s.f.Total != len(s.all) || !sameNews(s.f.Changes, s.all[s.f.Base:]) || len(s.f.Subs) != len(s.who) {
		s.t.Fatalf("%+v of %d changes, %d following", s.f, len(s.all), len(s.who))
	}
	for name, w := range s.who {
		pos, has := place(s.f, name)
		if !has || pos != w.from+len(w.had) || pos < s.f.Base {
			s.t.Fatalf("%q is at %d, %t; opened at %d, it had %d; Base %d", name, pos, has, w.from, len(w.had), s.f.Base)
		}
		if !sameNews(w.had, s.all[w.from:pos]) {
			s.t.Fatalf("%q, opened at %d, had %v", name, w.from, w.had)
		}
	}
}

func TestScripts(t *testing.T) {
	told := map[api.Errno]int{}
	forgot := 0
	for seed := range 30 {
		s := script{t: t, d: dice(seed), who: map[string]follower{}, told: told}
		for range 300 {
			s.step()
			s.check()
		}
		forgot += s.f.Base
	}
	wantTold(t, told, api.OK, api.ErrArg, api.ErrFull, api.ErrNone, api.ErrOld, api.ErrSame)
	if forgot < 200 {
		t.Errorf("%d changes were forgotten", forgot)
	}
}

// Whatever the rest, who reads, acknowledges and reads on has all, each once.
func TestReadOn(t *testing.T) {
	for total := range 50 {
		for from := range total + 1 {
			f, e := feed.Open(feedOf(0, total), "a", from)
			if e != api.OK {
				t.Fatalf("Open: error %d", e)
			}
			var had []api.Change
			for most := 1; ; most = most%16 + 1 {
				l, at, e := feed.Read(f, "a", most)
				if e != api.OK || at != from+len(had) {
					t.Fatalf("Read: at %d, error %d, with %d since %d", at, e, len(had), from)
				}
				if len(l) == 0 {
					break
				}
				had = append(had, l...)
				if f, e = feed.Ack(f, "a", at+len(l)); e != api.OK {
					t.Fatalf("Ack: error %d", e)
				}
				if f, e = feed.Trim(f, total); e != api.OK || f.Base != at+len(l) {
					t.Fatalf("Trim: Base %d, error %d", f.Base, e)
				}
			}
			wantNews(t, had, api.OK, news(from, total), api.OK, "read on", from)
		}
	}
}

// R3

// owner has which memory is whose.
type owner struct {
	t     *testing.T
	taken map[any]string
}

func (o *owner) take(name string, place any) {
	if other, ok := o.taken[place]; ok {
		o.t.Errorf("%s and %s share memory", name, other)
	}
	o.taken[place] = name
}

func (o *owner) changes(name string, l []api.Change) {
	l = l[:cap(l)]
	for i := range l {
		o.take(name, &l[i])
		d := l[i].Doc[:cap(l[i].Doc)]
		for j := range d {
			o.take(name+"' documents", &d[j])
		}
	}
}

func (o *owner) feed(name string, f api.Feed) {
	o.changes(name, f.Changes)
	l := f.Subs[:cap(f.Subs)]
	for i := range l {
		o.take(name, &l[i])
	}
}

// roomyNews are changes with others behind the list's end, and fields behind their documents' ends.
func roomyNews(from, to int) []api.Change {
	l := news(from, to+2)
	for i := range l {
		n := len(l[i].Doc)
		l[i].Doc = append(slices.Clone(l[i].Doc), a(-1)[0], a(-2)[0])[:n]
	}
	return l[:to-from]
}

// roomy is a feed with room behind its lists' ends, in which something stands.
func roomy() api.Feed {
	subs := []api.Sub{sub("a", 3), sub("b", 5), sub("c", 7), sub("behind", -1), sub("behind", -2)}
	return api.Feed{Base: 2, Total: 8, Changes: roomyNews(2, 8), Subs: subs[:3]}
}

// whole is a feed, and all that lies behind its lists' ends.
func whole(f api.Feed) api.Feed {
	f = api.Feed{Base: f.Base, Total: f.Total, Changes: slices.Clone(f.Changes[:cap(f.Changes)]), Subs: f.Subs[:cap(f.Subs)]}
	for i, c := range f.Changes {
		f.Changes[i].Doc = c.Doc[:cap(c.Doc)]
	}
	return f
}

// calls are all that answer with lists, of a feed and of changes, refused or not.
func calls() []func(f api.Feed, l []api.Change) (api.Feed, []api.Change) {
	type call = func(f api.Feed, l []api.Change) (api.Feed, []api.Change)
	turns := func(g api.Feed, e api.Errno) (api.Feed, []api.Change) { return g, nil }
	out := []call{
		func(f api.Feed, l []api.Change) (api.Feed, []api.Change) { return turns(feed.Add(f, l)) },
		func(f api.Feed, l []api.Change) (api.Feed, []api.Change) { return turns(feed.Add(f, nil)) },
		func(f api.Feed, l []api.Change) (api.Feed, []api.Change) { return turns(feed.Add(f, l[1:])) },
	}
	for _, name := range []string{"A", "a", "bb", "c", "z", ""} {
		for _, pos := range []int{0, 2, 4, 6, 8, 9} {
			out = append(out,
				func(f api.Feed, l []api.Change) (api.Feed, []api.Change) { return turns(feed.Open(f, name, pos)) },
				func(f api.Feed, l []api.Change) (api.Feed, []api.Change) { return turns(feed.Ack(f, name, pos)) },
				func(f api.Feed, l []api.Change) (api.Feed, []api.Change) { return turns(feed.Close(f, name)) },
				func(f api.Feed, l []api.Change) (api.Feed, []api.Change) { return turns(feed.Trim(f, pos)) },
				func(f api.Feed, l []api.Change) (api.Feed, []api.Change) {
					news, _, _ := feed.Read(f, name, pos)
					return api.Feed{}, news
				},
				func(f api.Feed, l []api.Change) (api.Feed, []api.Change) {
					news, _ := feed.Pull(f, pos, 3)
					return api.Feed{}, news
				})
		}
	}
	return out
}

func TestNothingIsShared(t *testing.T) {
	closed, e := feed.Close(roomy(), "b")
	if e != api.OK {
		t.Fatalf("Close: error %d", e)
	}
	for _, call := range calls() {
		for _, made := range []func() api.Feed{roomy, func() api.Feed { return plain(closed) }} {
			f, l := made(), roomyNews(8, 11)
			own := owner{t, map[any]string{}}
			own.feed("the feed", f)
			own.changes("the changes", l)
			g, told := call(f, l)
			own.feed("the feed then", g)
			own.changes("the changes told", told)
			if !sameFeed(whole(f), whole(made())) || !sameNews(whole(api.Feed{Changes: l}).Changes, whole(api.Feed{Changes: roomyNews(8, 11)}).Changes) {
				t.Fatalf("what was handed in was turned: %+v, %v", whole(f), l)
			}
		}
	}
}

// Changes that share a document do not in what is told.
func TestDocumentsInMoreThanOneChange(t *testing.T) {
	d := a(1)
	l := []api.Change{stands(1, "x", d), stands(2, "y", d), stands(3, "x", d)}
	f, _ := feed.Add(api.Feed{}, l)
	g, _ := feed.Open(api.Feed{Total: 3, Changes: l}, "a", 0)
	news, _ := feed.Pull(api.Feed{Total: 3, Changes: l}, 0, 3)
	own := owner{t, map[any]string{}}
	own.feed("what Add told", f)
	own.feed("what Open told", g)
	own.changes("what Pull told", news)
}
