package wire_test

import (
	"bytes"
	"reflect"
	"runtime/debug"
	"testing"

	"tailrace/api"
	"tailrace/wire"
)

// R1: asks that lie within themselves, that are woven, or that are deeper than any stack

func asking(o api.Op) api.Msg { return api.Msg{Kind: api.MsgAsk, Request: api.Request{Op: o}} }

// knot is an ask whose List has itself, twice, behind another one.
func knot(n int) api.Op {
	l := make([]api.Op, 3)
	l[0].N = n
	l[1].List, l[2].List = l, l
	return l[1]
}

// braid is asks in so many levels, each so many times in the next one.
func braid(leaf api.Op, wide, levels int) api.Op {
	for range levels {
		l := make([]api.Op, wide)
		for i := range l {
			l[i] = leaf
		}
		leaf = api.Op{List: l}
	}
	return leaf
}

func TestAsksThatLieWithinThemselves(t *testing.T) {
	for _, o := range []api.Op{knot(1), braid(api.Op{}, 1000, 11), braid(knot(1), 100, 3), braid(api.Op{}, 1, 200000)} {
		for _, q := range []api.Op{o, {List: []api.Op{{}, o}}} {
			requests(t).refusesMuch(api.Request{Op: q})
			for _, kind := range append(kinds(), 0, 99) {
				m := asking(q)
				m.Kind = kind
				msgs(t).refusesMuch(m)
			}
		}
	}
}

func TestSameEnds(t *testing.T) {
	for _, x := range []struct {
		a, b api.Op
		want bool
	}{
		{knot(1), knot(1), true},
		{knot(1), knot(2), false},
		{knot(1), api.Op{List: knot(1).List}, true},
		{knot(1), api.Op{List: []api.Op{{N: 1}, knot(1), knot(1)}}, true},
		{knot(1), api.Op{List: []api.Op{{N: 1}, knot(1), knot(2)}}, false},
		{knot(1), braid(api.Op{}, 3, 9), false},
		{braid(api.Op{}, 1000, 11), braid(api.Op{}, 1000, 11), true},
		{braid(api.Op{}, 1000, 11), braid(api.Op{Key: "x"}, 1000, 11), false},
		{braid(api.Op{}, 1000, 11), braid(api.Op{}, 1000, 12), false},
	} {
		if wire.Same(asking(x.a), asking(x.b)) != x.want || wire.Same(asking(x.b), asking(x.a)) != x.want {
			t.Errorf("Same is %t", !x.want)
		}
	}
}

// A small stack stands for asks that are deeper than any stack.
func TestDeeperThanTheStack(t *testing.T) {
	defer debug.SetMaxStack(debug.SetMaxStack(1 << 20))
	one, other := braid(api.Op{N: 1}, 1, 200000), braid(api.Op{N: 2}, 1, 200000)
	if !wire.Same(asking(one), asking(braid(api.Op{N: 1}, 1, 200000))) {
		t.Error("two very deep ones are not alike")
	}
	if wire.Same(asking(one), asking(other)) {
		t.Error("two very deep ones are alike")
	}
	msgs(t).refusesMuch(asking(one))
	requests(t).refusesMuch(api.Request{Op: one})
}

// Lists of which each is many times in another one are more than anybody can write.
func TestMoreThanCanBeWritten(t *testing.T) {
	const many = 1 << 16
	o := api.Op{Docs: make([]api.Named, many), News: make([]api.Change, many)}
	b := bytes.Repeat([]byte("x"), many)
	m := api.Msg{Kind: api.MsgForward}
	for range many {
		m.Entries = append(m.Entries, b)
	}
	msgs(t).refusesMuch(m)
	m = api.Msg{Kind: api.MsgPush}
	for range many {
		m.Logs = append(m.Logs, api.Log{Cmd: b})
	}
	msgs(t).refusesMuch(m)
	c := api.Conf{}
	members := make([]int, many)
	for range many {
		c.Chains = append(c.Chains, api.Chain{Members: members})
	}
	msgs(t).refusesMuch(api.Msg{Kind: api.MsgConf, Conf: c})
	for _, n := range []int{1000, many} {
		q := api.Request{}
		for range n {
			q.Op.List = append(q.Op.List, o)
		}
		requests(t).refusesMuch(q)
		for _, kind := range kinds() {
			msgs(t).refusesMuch(api.Msg{Kind: kind, Request: q})
		}
	}
}

// refusesMuch asks for one not to be written that is too much to be told of.
func (l line[T]) refusesMuch(one T) {
	l.t.Helper()
	if b, e := l.write(one); e != api.ErrArg || !reflect.ValueOf(b).IsZero() {
		l.t.Fatalf("%s: %d bytes, error %d", l.name, len(b), e)
	}
}
