package depot_test

import (
	"fmt"
	"slices"
	"testing"

	"tailrace/api"
	"tailrace/depot"
	"tailrace/shop"
)

// De2: scripts, in which requests come again, late and out of order.

// dice are numbers that go on from one to the next.
type dice int

func (d *dice) roll(n int) int {
	*d = (*d*1103515245 + 12345) % (1 << 31)
	return int(*d>>12) % n
}

func (d *dice) key() string { return fmt.Sprint("k", d.roll(30)) }

func (d *dice) name() string { return fmt.Sprint("s", d.roll(10)) }

func (d *dice) write() api.Op {
	some := []api.Doc{nil, a(1), a(2), heaviest()}
	switch d.roll(6) {
	case 0:
		return del(d.key())
	case 1:
		return cas(d.key(), some[d.roll(3)], some[d.roll(4)])
	case 2:
		return casNone(d.key(), some[d.roll(3)])
	}
	return put(d.key(), some[d.roll(4)])
}

// turn is one that may turn; total is how many changes there are about now.
func (d *dice) turn(total int) api.Op {
	switch d.roll(10) {
	case 0:
		return batch(d.write(), d.write())
	case 1:
		return open(d.name(), total-d.roll(4))
	case 2:
		return ack(d.name(), total-d.roll(6))
	case 3:
		return closing(d.name())
	case 4:
		return trim(total - d.roll(5))
	}
	return d.write()
}

// model is what must be: all that was ever committed, how much of it is
// forgotten, who subscribes, and of each client all it was ever answered.
type model struct {
	docs map[string]api.Doc
	all  []api.Change
	base int
	subs map[string]int
	told map[int]map[int]api.Answer
}

func newModel() *model {
	return &model{docs: map[string]api.Doc{}, subs: map[string]int{}, told: map[int]map[int]api.Answer{}}
}

// greatest is the greatest Id that was done of a client.
func (m *model) greatest(client int) int {
	g := 0
	for id := range m.told[client] {
		g = max(g, id)
	}
	return g
}

// do is a turning request's answer.
func (m *model) do(q api.Request) api.Answer {
	if q.Client == 0 {
		return m.turn(q.Op)
	}
	before, known := m.told[q.Client]
	switch {
	case known && q.Id < m.greatest(q.Client):
		return code(api.ErrOld)
	case known && q.Id == m.greatest(q.Client):
		return before[q.Id]
	case !known && len(m.told) == 8:
		return code(api.ErrFull)
	case !known:
		m.told[q.Client] = map[int]api.Answer{}
	}
	told := m.turn(q.Op)
	m.told[q.Client][q.Id] = told
	return told
}

func (m *model) turn(o api.Op) api.Answer {
	pos, has := m.subs[o.Key]
	switch o.Kind {
	case api.OpOpen:
		switch {
		case o.N < 0 || o.N > len(m.all):
			return code(api.ErrArg)
		case has:
			return code(api.ErrSame)
		case len(m.subs) == 8:
			return code(api.ErrFull)
		case o.N < m.base:
			return code(api.ErrOld)
		}
		m.subs[o.Key] = o.N
	case api.OpAck:
		switch {
		case !has:
			return code(api.ErrNone)
		case o.N > len(m.all):
			return code(api.ErrArg)
		case o.N < pos:
			return code(api.ErrOld)
		}
		m.subs[o.Key] = o.N
	case api.OpClose:
		if !has {
			return code(api.ErrNone)
		}
		delete(m.subs, o.Key)
	case api.OpTrim:
		for m.base < min(o.N, len(m.all)) && !m.wanted() {
			m.base++
		}
	case api.OpBatch:
		return m.write(o.List, false)
	default:
		return m.write([]api.Op{o}, true)
	}
	return api.Answer{}
}

// wanted tells whether a subscription wants the eldest change.
func (m *model) wanted() bool {
	for _, pos := range m.subs {
		if pos == m.base {
			return true
		}
	}
	return false
}

// write does some at once, or none; what stands there is told of one alone.
func (m *model) write(l []api.Op, alone bool) api.Answer {
	next := map[string]api.Doc{}
	for k, d := range m.docs {
		next[k] = d
	}
	var changes []api.Change
	for _, o := range l {
		d, has := next[o.Key]
		pos := len(m.all) + len(changes) + 1
		switch {
		case o.Kind == api.OpDelete && !has:
			return code(api.ErrNone)
		case o.Kind == api.OpDelete:
			delete(next, o.Key)
			changes = append(changes, gone(pos, o.Key))
			continue
		case o.Kind == api.OpCas && (has != o.Has || has && !slices.Equal(d, o.Want)):
			if alone {
				return api.Answer{Code: api.ErrCas, Has: has, Doc: d}
			}
			return code(api.ErrCas)
		case len(o.Doc) > 1:
			return code(api.ErrLong)
		case !has && len(next) == 24:
			return code(api.ErrFull)
		}
		next[o.Key] = o.Doc
		changes = append(changes, stands(pos, o.Key, o.Doc))
	}
	m.docs = next
	m.all = append(m.all, changes...)
	return api.Answer{N: len(m.all)}
}

// depot is the whole of it, as a depot.
func (m *model) depot() api.Depot {
	d := api.Depot{Feed: api.Feed{Base: m.base, Total: len(m.all), Changes: m.all[m.base:]}}
	for i := range 30 {
		if one, has := m.docs[fmt.Sprint("k", i)]; has {
			d.Docs = append(d.Docs, named(fmt.Sprint("k", i), one))
		}
	}
	slices.SortFunc(d.Docs, func(x, y api.Named) int { return slices.Compare([]byte(x.Key), []byte(y.Key)) })
	for i := range 10 {
		if pos, has := m.subs[fmt.Sprint("s", i)]; has {
			d.Feed.Subs = append(d.Feed.Subs, sub(fmt.Sprint("s", i), pos))
		}
	}
	for client := range 100 {
		if told, has := m.told[client]; has {
			g := m.greatest(client)
			d.Last = append(d.Last, last(client, g, told[g]))
		}
	}
	return d
}

// script asks a depot and a model the same.
type script struct {
	t    *testing.T
	d    dice
	depo api.Depot
	m    *model
	sent []api.Request
	told map[api.Errno]int
}

// next is a client's next request, or one that was sent before.
func (s *script) next() api.Request {
	if len(s.sent) > 0 && s.d.roll(3) == 0 {
		// Mostly one of the last ones.
		back := min(len(s.sent), 1+s.d.roll(1+s.d.roll(40)))
		return s.sent[len(s.sent)-back]
	}
	client := 10 * s.d.roll(10)
	return of(client, s.m.greatest(client)+1+s.d.roll(2)*s.d.roll(5), s.d.turn(len(s.m.all)))
}

func (s *script) step() {
	q := s.next()
	s.sent = append(s.sent, q)
	right := s.m.do(q)
	want(s.t, s.depo, q, s.m.depot(), right)
	s.depo, _, _ = depot.Apply(s.depo, q)
	s.told[right.Code]++
	// At once again: nothing turns any more, and the answer is the same.
	if q.Client != 0 {
		want(s.t, s.depo, q, s.depo, right)
	}
	_, snapped, _ := depot.Apply(s.depo, of(0, 0, snap()))
	if !sameAnswer(snapped, api.Answer{Docs: s.folded(), N: len(s.m.all)}) {
		s.t.Fatalf("OpSnap: %+v, of %+v", snapped, s.m.all)
	}
}

// folded is what all changes make.
func (s *script) folded() []api.Named {
	var docs []api.Named
	for _, c := range s.m.all {
		docs = shop.Fold(docs, c)
	}
	return docs
}

func TestScripts(t *testing.T) {
	told := map[api.Errno]int{}
	forgot := 0
	for seed := range 12 {
		s := script{t: t, d: dice(seed), m: newModel(), told: told}
		for range 250 {
			s.step()
		}
		forgot += s.m.base
	}
	for _, e := range []api.Errno{api.OK, api.ErrArg, api.ErrFull, api.ErrLong, api.ErrNone, api.ErrCas, api.ErrOld, api.ErrSame} {
		if told[e] < 5 {
			t.Errorf("code %d was told %d times", e, told[e])
		}
	}
	if forgot < 50 {
		t.Errorf("%d changes were forgotten", forgot)
	}
}
