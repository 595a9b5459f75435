package shop_test

import (
	"math"
	"slices"
	"testing"

	"tailrace/api"
	"tailrace/shop"
)

// So2

func TestFold(t *testing.T) {
	for _, docs := range append(few(), row(api.MaxDocs-1), row(api.MaxDocs)) {
		for _, k := range append(keys(), "00000", "00011", "00023", "00024") {
			for _, d := range []api.Doc{nil, a(2), a(9), heaviest()} {
				if l := shop.Fold(docs, stands(3, k, d)); !sameDocs(l, with(docs, k, d)) {
					t.Fatalf("Fold(%v), %q standing: %v", docs, k, l)
				}
				// The Doc of what is gone has no meaning.
				if l := shop.Fold(docs, api.Change{Pos: -1, Key: k, Doc: d}); !sameDocs(l, without(docs, k)) {
					t.Fatalf("Fold(%v), %q gone: %v", docs, k, l)
				}
			}
		}
	}
}

func TestFoldEnds(t *testing.T) {
	for _, docs := range append(noDocs(), nil, row(api.MaxDocs)) {
		for _, k := range append(noKeys(), keys()...) {
			for _, d := range append(odd(), nil) {
				shop.Fold(docs, stands(1, k, d))
				shop.Fold(docs, api.Change{Pos: math.MinInt, Key: k, Doc: d})
			}
		}
	}
}

// So3

// model is documents by their keys, in no order.
type model map[string]api.Doc

func (m model) list() []api.Named {
	var l []api.Named
	for k, d := range m {
		l = with(l, k, d)
	}
	return l
}

// refuses is what one that turns is refused for, as the chapter has it.
func (m model) refuses(o api.Op) api.Errno {
	d, has := m[o.Key]
	switch {
	case o.Kind == api.OpDelete && !has:
		return api.ErrNone
	case o.Kind == api.OpCas && has != o.Has, o.Kind == api.OpCas && has && !sameDoc(d, o.Want):
		return api.ErrCas
	case o.Kind != api.OpDelete && !shop.Light(o.Doc):
		return api.ErrLong
	case o.Kind != api.OpDelete && !has && len(m) == 24:
		return api.ErrFull
	}
	return api.OK
}

// turn does some at once, or none.
func (m model) turn(l []api.Op) (model, api.Errno) {
	next := model{}
	for k, d := range m {
		next[k] = d
	}
	for _, o := range l {
		if e := next.refuses(o); e != api.OK {
			return m, e
		}
		if o.Kind == api.OpDelete {
			delete(next, o.Key)
		} else {
			next[o.Key] = o.Doc
		}
	}
	return next, api.OK
}

// dice are numbers that go on from one to the next.
type dice int

func (d *dice) roll(n int) int {
	*d = (*d*1103515245 + 12345) % (1 << 31)
	return int(*d>>12) % n
}

// turning is one that turns, of thirty keys, so that there may be too many.
func (d *dice) turning() api.Op {
	k := row(30)[d.roll(30)].Key
	docs := []api.Doc{nil, a(1), a(2), a(3), heavy(400), heaviest()}
	switch d.roll(8) {
	case 0, 1:
		return del(k)
	case 2:
		return cas(k, docs[d.roll(4)], docs[d.roll(6)])
	case 3:
		return casNone(k, docs[d.roll(6)])
	}
	return put(k, docs[d.roll(6)])
}

func (d *dice) asking() api.Op {
	switch d.roll(6) {
	case 0:
		return get(d.turning().Key)
	case 1:
		return scan(d.turning().Key, d.turning().Key, 1+d.roll(24))
	case 2, 3:
		var l []api.Op
		for range 1 + d.roll(4) {
			l = append(l, d.turning())
		}
		return batch(l...)
	}
	return d.turning()
}

func TestScripts(t *testing.T) {
	d := dice(1)
	told := map[api.Errno]int{}
	for range 20 {
		var docs []api.Named
		m, total := model{}, 0
		for range 400 {
			o := d.asking()
			then, got, changes, e := shop.Apply(docs, o, total)
			l := o.List
			if o.Kind == api.OpGet || o.Kind == api.OpScan {
				l = nil
			} else if o.Kind != api.OpBatch {
				l = []api.Op{o}
			}
			next, code := m.turn(l)
			if code != api.OK {
				l = nil
			}
			if e != api.OK || got.Code != code || len(changes) != len(l) || !sameDocs(then, next.list()) {
				t.Fatalf("%+v of %v: %v, %+v, %v, error %d; want code %d", o, docs, then, got, changes, e, code)
			}
			checkFolded(t, docs, then, got, changes, total)
			told[code]++
			docs, m, total = then, next, total+len(changes)
		}
	}
	for _, e := range []api.Errno{api.OK, api.ErrFull, api.ErrLong, api.ErrNone, api.ErrCas} {
		if told[e] < 20 {
			t.Errorf("code %d was told %d times", e, told[e])
		}
	}
}

// checkFolded tells whether documents are those ahead, folded by the changes, which follow the total.
func checkFolded(t *testing.T, docs, then []api.Named, got api.Answer, changes []api.Change, total int) {
	t.Helper()
	last := 0
	for i, c := range changes {
		docs, last = shop.Fold(docs, c), total+1+i
		if c.Pos != last {
			t.Fatalf("the change at %d is at Pos %d, behind %d", i, c.Pos, total)
		}
	}
	if !sameDocs(docs, then) || got.N != last || shop.Check(then) != api.OK {
		t.Fatalf("folded %v, then %v, N %d behind %v", docs, then, got.N, changes)
	}
}

// R3

// owner has which memory is whose.
type owner struct {
	t     *testing.T
	what  string
	taken map[any]string
}

func (o *owner) take(name string, place any) {
	if other, ok := o.taken[place]; ok {
		o.t.Errorf("%s: %s and %s share memory", o.what, name, other)
	}
	o.taken[place] = name
}

func (o *owner) doc(name string, d api.Doc) {
	d = d[:cap(d)]
	for i := range d {
		o.take(name, &d[i])
	}
}

func (o *owner) docs(name string, l []api.Named) {
	l = l[:cap(l)]
	for i := range l {
		o.take(name, &l[i])
		o.doc(name+"' documents", l[i].Doc)
	}
}

func (o *owner) changes(name string, l []api.Change) {
	l = l[:cap(l)]
	for i := range l {
		o.take(name, &l[i])
		o.doc(name+"' documents", l[i].Doc)
	}
}

func (o *owner) op(name string, p api.Op) {
	o.doc(name+"'s document", p.Doc)
	o.doc(name+"'s other document", p.Want)
	for _, q := range p.List {
		o.op(name+"'s list", q)
	}
}

// roomy is documents with others behind the lists' ends.
func roomy() []api.Named {
	l := append(row(5), named("behind", a(-1)))
	for i := range l {
		l[i].Doc = append(l[i].Doc, field("behind", l[i].Doc[0].Val))[:1]
	}
	return l[:5]
}

func asks() []api.Op {
	one := append(a(1), a(2)...)[:1]
	two := append(a(2), a(3)...)[:1]
	return []api.Op{
		put("00002", one), put("x", one), del("00000"), del("x"), get("00001"), get("x"),
		cas("00001", two, one), casNone("00001", one), casNone("x", one), scan("", "", 24), scan("00001", "00003", 1),
		batch(put("x", one), put("00002", two), del("00000"), cas("x", slices.Clone(one), slices.Clone(two))),
		batch(put("x", one), casNone("00002", two)), put("", one), {},
	}
}

func TestNothingIsShared(t *testing.T) {
	for i, o := range asks() {
		docs := roomy()
		then, got, changes, e := shop.Apply(docs, o, 5)
		if e != api.OK {
			t.Fatalf("Apply: error %d", e)
		}
		own := owner{t, "Apply", map[any]string{}}
		own.docs("the documents", docs[:5])
		own.op("what is asked", o)
		own.docs("the documents then", then)
		own.doc("the answer's document", got.Doc)
		own.docs("the answer's documents", got.Docs)
		own.changes("the changes", changes)
		if !sameDocs(docs[:6], roomy()[:6]) || docs[0].Doc[:2][1] != roomy()[0].Doc[:2][1] {
			t.Errorf("the documents were turned: %v", docs[:6])
		}
		if !sameOp(o, asks()[i]) {
			t.Errorf("what is asked was turned: %+v", o)
		}
	}
}

// sameOp holds asks against each other, and what lies behind their documents' ends.
func sameOp(x, y api.Op) bool {
	return x.Key == y.Key && sameDoc(x.Doc[:cap(x.Doc)], y.Doc[:cap(y.Doc)]) && sameDoc(x.Want[:cap(x.Want)], y.Want[:cap(y.Want)]) &&
		slices.EqualFunc(x.List, y.List, sameOp)
}

func TestFoldSharesNothing(t *testing.T) {
	for _, c := range []api.Change{stands(1, "00002", a(9)), stands(1, "x", a(9)), stands(1, "\x00", nil), gone(1, "00002"), gone(1, "x")} {
		docs := roomy()
		own := owner{t, "Fold", map[any]string{}}
		own.docs("the documents", docs)
		own.doc("the change's document", c.Doc)
		own.docs("the documents then", shop.Fold(docs, c))
		if !sameDocs(docs[:6], roomy()[:6]) {
			t.Errorf("the documents were turned: %v", docs[:6])
		}
	}
}
