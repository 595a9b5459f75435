package shelf_test

import (
	"fmt"
	"testing"

	"tailrace/api"
	"tailrace/index"
	"tailrace/rank"
	"tailrace/shelf"
	"tailrace/shop"
)

// Se2: scripts, in which a shelf is loaded and fed in any order, again and late.

// dice are numbers that go on from one to the next.
type dice int

func (d *dice) roll(n int) int {
	*d = (*d*1103515245 + 12345) % (1 << 31)
	return int(*d>>12) % n
}

func (d *dice) key() string { return fmt.Sprint("k", d.roll(12)) }

func (d *dice) doc() api.Doc {
	p := field("p", rank.Point(d.roll(5)-2, d.roll(5)-2))
	switch d.roll(5) {
	case 0:
		return nil
	case 1:
		return a(d.roll(4))
	case 2:
		return doc(field("a", rank.Text(fmt.Sprint("T", d.roll(3)))), p)
	case 3:
		return doc(field("a", rank.Num(d.roll(3)-1)), field("b", rank.Num(d.roll(3))), p)
	}
	return doc(p)
}

// changes are so many, and the documents behind each number of them.
func (d *dice) changes(n int) ([]api.Change, [][]api.Named) {
	var all []api.Change
	docs := [][]api.Named{nil}
	for pos := 1; pos <= n; pos++ {
		c := gone(pos, d.key())
		if d.roll(4) > 0 {
			c = stands(pos, c.Key, d.doc())
		}
		all = append(all, c)
		docs = append(docs, shop.Fold(docs[pos-1], c))
	}
	return all, docs
}

// script asks a shelf whatever comes to it of some changes.
type script struct {
	t    *testing.T
	d    dice
	s    api.Shelf
	all  []api.Change
	docs [][]api.Named
	told map[api.Errno]int
}

// near is a place about where the shelf is.
func (s *script) near() int {
	n := s.s.Mark + []int{0, 0, 0, -1, 1, -3, 2, 5}[s.d.roll(8)]
	return max(0, min(n, len(s.all)))
}

func (s *script) next() api.Op {
	n := s.near()
	switch s.d.roll(8) {
	case 0:
		return load(n, s.docs[n]...)
	case 1:
		return find(key(rank.Num(s.d.roll(5)-1)), "", 1+s.d.roll(24), n)
	case 2:
		if s.d.roll(10) == 0 {
			return ready()
		}
		return others()[s.d.roll(8)]
	}
	// Some behind N: mostly the next ones, else changes that do not go on there.
	from := n
	if s.d.roll(10) == 0 {
		from = s.near()
	}
	to := min(from+s.d.roll(4), len(s.all))
	return feed(n, s.all[from:to]...)
}

func (s *script) step() {
	before := s.s
	o := s.next()
	then, told, e := shelf.Apply(before, o)
	s.told[told.Code]++
	right, _ := index.Build(before.Def, s.docs[then.Mark])
	if e != api.OK || then.Mark < before.Mark || then.Ready != (before.Ready || o.Kind == api.OpReady) ||
		!sameShelf(then, api.Shelf{Def: before.Def, Ready: then.Ready, Mark: then.Mark, Entries: right}) {
		s.t.Fatalf("%+v of %+v: %+v, error %d", o, before, then, e)
	}
	if told.Code != api.OK && !sameShelf(then, before) {
		s.t.Fatalf("%+v is refused, but turns %+v to %+v", o, before, then)
	}
	if o.Kind == api.OpFind && told.Code == api.OK {
		l, _ := index.Find(right, o.Key, o.To, o.Most)
		if !sameAnswer(told, api.Answer{Keys: l, N: then.Mark}) || told.N < o.N {
			s.t.Fatalf("%+v of %+v: %+v", o, before, told)
		}
	}
	s.s = then
}

func TestScripts(t *testing.T) {
	told := map[api.Errno]int{}
	for seed, def := range []string{"a", "b", "p", "a,p", "norm(p)", "low(a),a", "a+b", "p*p,a", "7", "head(a)", "a,b,p,a", "zz"} {
		s := script{t: t, d: dice(seed), told: told}
		s.s, _ = shelf.New(def)
		s.all, s.docs = s.d.changes(300)
		for range 400 {
			s.step()
		}
		if s.s.Mark < 100 {
			t.Errorf("%s came to mark %d", def, s.s.Mark)
		}
	}
	for _, e := range []api.Errno{api.OK, api.ErrArg, api.ErrOld, api.ErrWait} {
		if told[e] < 50 {
			t.Errorf("code %d was told %d times", e, told[e])
		}
	}
}
