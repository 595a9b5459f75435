package depot_test

import (
	"slices"
	"testing"

	"tailrace/api"
	"tailrace/depot"
)

// R3

// owner has which memory is whose.
type owner struct {
	t     *testing.T
	taken map[any]string
}

func (o *owner) take(name string, place any) {
	if other, ok := o.taken[place]; ok {
		o.t.Errorf("%s and %s share memory", name, other)
	}
	o.taken[place] = name
}

// whole takes all elements of a list, and the room behind its end.
func whole[T any](o *owner, name string, l []T) []T {
	l = l[:cap(l)]
	for i := range l {
		o.take(name, &l[i])
	}
	return l
}

func (o *owner) docs(name string, l []api.Named) {
	for _, n := range whole(o, name+"'s documents", l) {
		whole(o, name+"'s documents' fields", n.Doc)
	}
}

func (o *owner) changes(name string, l []api.Change) {
	for _, c := range whole(o, name+"'s changes", l) {
		whole(o, name+"'s changes' fields", c.Doc)
	}
}

func (o *owner) answer(name string, x api.Answer) {
	whole(o, name+"'s document", x.Doc)
	o.docs(name, x.Docs)
	o.changes(name, x.News)
	whole(o, name+"'s keys", x.Keys)
}

func (o *owner) depot(name string, d api.Depot) {
	o.docs(name, d.Docs)
	o.changes(name+"'s feed", d.Feed.Changes)
	whole(o, name+"'s subscriptions", d.Feed.Subs)
	for _, l := range whole(o, name+"'s last ones", d.Last) {
		o.answer(name+"'s last answer", l.Answer)
	}
}

func (o *owner) op(name string, p api.Op) {
	whole(o, name+"'s document", p.Doc)
	whole(o, name+"'s other document", p.Want)
	for _, q := range whole(o, name+"'s list", p.List) {
		o.op(name+"'s list", q)
	}
}

// behind is a list with things behind its end.
func behind[T any](l []T, things ...T) []T { return append(slices.Clone(l), things...)[:len(l)] }

func roomyDoc(d api.Doc) api.Doc { return behind(d, a(-1)[0], a(-2)[0]) }

func roomyNamed(n api.Named) api.Named { return named(n.Key, roomyDoc(n.Doc)) }

func roomyChange(c api.Change) api.Change {
	c.Doc = roomyDoc(c.Doc)
	return c
}

func roomyAnswer(x api.Answer) api.Answer {
	x.Doc, x.Docs, x.News = roomyDoc(x.Doc), behind(plain(x.Docs, roomyNamed), named("behind", nil)), behind(plain(x.News, roomyChange), gone(-1, "behind"))
	x.Keys = behind(x.Keys, api.Pair{Key: "behind"})
	return x
}

func roomyLast(l api.Last) api.Last { return last(l.Client, l.Id, roomyAnswer(l.Answer)) }

// roomy is a depot with room behind all its lists' ends, in which something stands.
func roomy() api.Depot {
	d := busy()
	d.Last = append(d.Last, last(11, 4, oddAnswer()))
	d.Docs, d.Last = behind(plain(d.Docs, roomyNamed), named("behind", nil)), behind(plain(d.Last, roomyLast), last(-1, -1, api.Answer{}))
	d.Feed.Changes, d.Feed.Subs = behind(plain(d.Feed.Changes, roomyChange), gone(-1, "behind")), behind(d.Feed.Subs, sub("behind", -1))
	return d
}

func roomyOp(o api.Op) api.Op {
	o.Doc, o.Want = roomyDoc(o.Doc), roomyDoc(o.Want)
	o.List = behind(plain(o.List, roomyOp), api.Op{Kind: -1})
	return o
}

// bared is a list and what lies behind its end.
func bared[T any](l []T, one func(T) T) []T { return plain(l[:cap(l)], one) }

func baredNamed(n api.Named) api.Named { return named(n.Key, n.Doc[:cap(n.Doc)]) }

func baredChange(c api.Change) api.Change {
	c.Doc = c.Doc[:cap(c.Doc)]
	return c
}

func baredLast(l api.Last) api.Last {
	x := &l.Answer
	x.Doc, x.Docs, x.News, x.Keys = x.Doc[:cap(x.Doc)], bared(x.Docs, baredNamed), bared(x.News, baredChange), x.Keys[:cap(x.Keys)]
	return l
}

// baredDepot is a depot and all that lies behind its lists' ends.
func baredDepot(d api.Depot) api.Depot {
	d.Docs, d.Last = bared(d.Docs, baredNamed), bared(d.Last, baredLast)
	d.Feed.Changes, d.Feed.Subs = bared(d.Feed.Changes, baredChange), d.Feed.Subs[:cap(d.Feed.Subs)]
	return d
}

// sameOp holds asks against each other, and what lies behind their lists' ends.
func sameOp(x, y api.Op) bool {
	return x.Kind == y.Kind && x.Key == y.Key && slices.Equal(x.Doc[:cap(x.Doc)], y.Doc[:cap(y.Doc)]) &&
		slices.Equal(x.Want[:cap(x.Want)], y.Want[:cap(y.Want)]) && slices.EqualFunc(x.List[:cap(x.List)], y.List[:cap(y.List)], sameOp)
}

func TestNothingIsShared(t *testing.T) {
	for _, o := range slices.Concat(turning(), reading(), others()[:4]) {
		for _, id := range []int{0, 1, 4, 7, 8} {
			for _, client := range []int{0, 5, 7, 11} {
				d, q := roomy(), of(client, id, roomyOp(o))
				own := owner{t, map[any]string{}}
				own.depot("the depot", d)
				own.op("what is asked", q.Op)
				then, told, e := depot.Apply(d, q)
				if e != api.OK {
					t.Fatalf("Apply: error %d", e)
				}
				own.depot("the depot then", then)
				own.answer("the answer", told)
				if !sameDepot(baredDepot(d), baredDepot(roomy())) || !sameOp(q.Op, roomyOp(o)) {
					t.Fatalf("%+v: what was handed in was turned: %+v", q, d)
				}
			}
		}
	}
}

// Documents that are in more than one place are not in what is told.
func TestDocumentsInMoreThanOnePlace(t *testing.T) {
	one := a(1)
	d := api.Depot{
		Docs: []api.Named{named("x", one), named("y", one)},
		Feed: api.Feed{Total: 2, Changes: []api.Change{stands(1, "x", one), stands(2, "y", one)}, Subs: []api.Sub{sub("s", 0)}},
		Last: []api.Last{last(1, 1, api.Answer{Doc: one, Docs: []api.Named{named("x", one)}}), last(2, 1, api.Answer{Doc: one})},
	}
	some := batch(put("x", one), put("y", one), cas("x", one, one), put("z", one))
	for _, o := range []api.Op{put("z", one), some, cas("x", a(2), one), casNone("x", one), get("x"), scan("", "", 9), read("s", 9), pull(0, 9), snap()} {
		for _, client := range []int{0, 1, 2, 3} {
			for _, id := range []int{1, 2} {
				own := owner{t, map[any]string{}}
				whole(&own, "the document", one)
				then, told, _ := depot.Apply(d, of(client, id, o))
				own.depot("the depot then", then)
				own.answer("the answer", told)
			}
		}
	}
}

// R1: a batch within itself is a list like any other.
func TestBatchWithinItself(t *testing.T) {
	l := make([]api.Op, 1)
	l[0] = batch(l...)
	want(t, busy(), of(7, 1, l[0]), with(busy(), last(7, 1, code(api.ErrArg))), code(api.ErrArg))
}
