package depot_test

import (
	"math"
	"slices"
	"testing"

	"tailrace/api"
	"tailrace/depot"
	"tailrace/feed"
	"tailrace/shop"
)

func TestTheExample(t *testing.T) {
	q := of(5, 1, put("x", a(1)))
	d, told, e := depot.Apply(api.Depot{}, q)
	if e != api.OK || told.Code != api.OK || told.N != 1 || len(d.Docs) != 1 || len(d.Feed.Changes) != 1 || d.Feed.Total != 1 {
		t.Fatalf("Apply: %+v, %+v, error %d", d, told, e)
	}
	want(t, d, q, d, told)
}

// De1: Check, Turns, Same

func TestCheck(t *testing.T) {
	for _, d := range depots() {
		if e := depot.Check(d); e != api.OK {
			t.Errorf("Check(%+v): error %d", d, e)
		}
	}
	for _, d := range noDepots() {
		if e := depot.Check(d); e != api.ErrArg {
			t.Errorf("Check(%+v): error %d", d, e)
		}
	}
	for i := range api.MaxLast - 1 {
		d := api.Depot{Last: lasts(api.MaxLast)}
		d.Last[i], d.Last[i+1] = d.Last[i+1], d.Last[i]
		if e := depot.Check(d); e != api.ErrArg {
			t.Errorf("Check, the clients at %d being out of order: error %d", i, e)
		}
	}
}

func TestApplyRefusesDepotsThatMayNotBe(t *testing.T) {
	for _, d := range noDepots() {
		for _, o := range slices.Concat(turning(), reading(), others()) {
			for _, q := range []api.Request{of(0, 0, o), of(1, 1, o), of(-1, 1, o)} {
				then, told, e := depot.Apply(d, q)
				if e != api.ErrArg || !sameDepot(then, api.Depot{}) || !sameAnswer(told, api.Answer{}) {
					t.Fatalf("%+v of %+v: %+v, %+v, error %d", q, d, then, told, e)
				}
			}
		}
	}
}

func TestTurns(t *testing.T) {
	kinds := []int{api.OpPut, api.OpDelete, api.OpCas, api.OpBatch, api.OpOpen, api.OpAck, api.OpClose, api.OpTrim}
	for k := -3; k < 200; k++ {
		for _, o := range []api.Op{{Kind: k}, {Kind: k, Key: "x", Most: 1, List: []api.Op{put("x", nil), get("x")}}} {
			if depot.Turns(o) != slices.Contains(kinds, k) {
				t.Errorf("Turns of kind %d is %t", k, depot.Turns(o))
			}
		}
	}
	for _, k := range []int{math.MinInt, math.MaxInt, api.MaxCount} {
		if depot.Turns(api.Op{Kind: k}) {
			t.Errorf("kind %d turns", k)
		}
	}
}

func TestSame(t *testing.T) {
	unlike := []api.Depot{
		{}, busy(), full(), worn(9), worn(8), {Docs: row(1)}, {Docs: row(2)}, {Docs: row(2)[1:]}, {Docs: []api.Named{named("00000", a(1))}}, {Docs: []api.Named{{}}}, {Docs: []api.Named{named("", odd())}},
		{Feed: feedOf(0, 1)}, {Feed: feedOf(0, 2)}, {Feed: feedOf(1, 2)}, {Feed: feedOf(2, 2)}, {Feed: feedOf(0, 1, sub("a", 0))}, {Feed: feedOf(0, 1, sub("a", 1))}, {Feed: feedOf(0, 1, sub("b", 1))},
		{Feed: api.Feed{Total: -1}}, {Feed: api.Feed{Base: -1}}, {Feed: api.Feed{Changes: []api.Change{{}}}}, {Feed: api.Feed{Subs: []api.Sub{{}}}},
		{Last: lasts(1)}, {Last: lasts(2)}, {Last: lasts(2)[1:]}, {Last: []api.Last{{}}}, {Last: []api.Last{{}, {}}}, {Last: []api.Last{{Client: 1}}}, {Last: []api.Last{{Id: 1}}}, {Last: []api.Last{{Client: 1, Id: 1}}},
		{Last: []api.Last{last(1, 1, api.Answer{N: 1})}}, {Last: []api.Last{last(1, 1, api.Answer{Total: 1})}}, {Last: []api.Last{last(1, 1, code(api.ErrCas))}}, {Last: []api.Last{last(1, 1, api.Answer{Has: true})}},
		{Last: []api.Last{last(1, 1, api.Answer{Doc: a(1)})}}, {Last: []api.Last{last(1, 1, api.Answer{Docs: row(1)})}}, {Last: []api.Last{last(1, 1, api.Answer{News: news(0, 1)})}},
		{Last: []api.Last{last(1, 1, api.Answer{Keys: []api.Pair{{}}})}}, {Last: []api.Last{last(1, 1, oddAnswer())}}, {Last: []api.Last{last(2, 1, oddAnswer())}},
		{Last: []api.Last{lasts(2)[1], lasts(2)[0]}}, {Docs: []api.Named{row(2)[1], row(2)[0]}},
	}
	for i, x := range unlike {
		for j, y := range unlike {
			if depot.Same(x, plainDepot(y)) != (i == j) {
				t.Errorf("Same of %d and %d is %t", i, j, i != j)
			}
		}
	}
	if empty := depots()[1]; !depot.Same(empty, api.Depot{}) || !depot.Same(api.Depot{}, empty) {
		t.Error("an empty list is not as none")
	}
	within := api.Depot{
		Docs: []api.Named{named("x", api.Doc{})}, Feed: api.Feed{Changes: []api.Change{stands(1, "x", api.Doc{})}},
		Last: []api.Last{last(1, 1, api.Answer{Doc: api.Doc{}, Docs: []api.Named{}, News: []api.Change{}, Keys: []api.Pair{}})},
	}
	if !depot.Same(within, plainDepot(within)) || !depot.Same(plainDepot(within), within) {
		t.Error("an empty list within is not as none")
	}
	room := api.Depot{Docs: row(5)[:2], Last: lasts(4)[:1]}
	if !depot.Same(room, api.Depot{Docs: row(2), Last: lasts(1)}) {
		t.Error("what lies behind a list's end makes a difference")
	}
}

// De1: what is asked

// asked is what comes of a turning or reading one, as the layers below tell it.
func asked(d api.Depot, o api.Op) (api.Depot, api.Answer) {
	var e api.Errno
	var told api.Answer
	switch o.Kind {
	case api.OpPut, api.OpDelete, api.OpCas, api.OpBatch:
		if d.Feed.Total > 2147483639 {
			return d, code(api.ErrFull)
		}
		var l []api.Change
		d.Docs, told, l, _ = shop.Apply(d.Docs, o, d.Feed.Total)
		d.Feed.Changes = append(slices.Clone(d.Feed.Changes), l...)
		d.Feed.Total += len(l)
		return d, told
	case api.OpOpen:
		d.Feed, e = feed.Open(d.Feed, o.Key, o.N)
	case api.OpAck:
		d.Feed, e = feed.Ack(d.Feed, o.Key, o.N)
	case api.OpClose:
		d.Feed, e = feed.Close(d.Feed, o.Key)
	case api.OpTrim:
		d.Feed, e = feed.Trim(d.Feed, o.N)
	case api.OpGet, api.OpScan:
		_, told, _, _ = shop.Apply(d.Docs, o, 7)
		return d, told
	case api.OpRead:
		told.News, told.N, e = feed.Read(d.Feed, o.Key, o.Most)
		told.Total = d.Feed.Total
	case api.OpPull:
		told.News, e = feed.Pull(d.Feed, o.N, o.Most)
		told.Total = d.Feed.Total
	case api.OpSnap:
		told = api.Answer{Docs: d.Docs, N: d.Feed.Total}
	default:
		e = api.ErrArg
	}
	if e != api.OK {
		told = code(e)
	}
	return d, told
}

func TestTurningAndReading(t *testing.T) {
	told := map[api.Errno]int{}
	for _, d := range depots() {
		for _, o := range slices.Concat(turning(), reading()) {
			then, right := asked(d, o)
			for _, id := range []int{0, 1, -1, math.MinInt, math.MaxInt} {
				want(t, d, of(0, id, o), then, right)
				want(t, d, of(0, id, dressed(o)), then, right)
			}
			told[right.Code]++
		}
	}
	for _, e := range []api.Errno{api.OK, api.ErrArg, api.ErrFull, api.ErrLong, api.ErrNone, api.ErrCas, api.ErrOld, api.ErrSame} {
		if told[e] < 5 {
			t.Errorf("code %d was told %d times", e, told[e])
		}
	}
}

// What each kind is told, to the letter.
func TestAnswers(t *testing.T) {
	d := busy()
	for _, c := range []struct {
		o    api.Op
		told api.Answer
	}{
		{put("x", a(1)), api.Answer{N: 21}},
		{put("x", heaviest()), code(api.ErrLong)},
		{del("a"), api.Answer{N: 21}},
		{del("x"), code(api.ErrNone)},
		{cas("a", a(1), a(2)), api.Answer{N: 21}},
		{cas("a", a(2), a(1)), api.Answer{Code: api.ErrCas, Has: true, Doc: a(1)}},
		{batch(put("x", nil), del("x"), put("y", nil), del("a")), api.Answer{N: 24}},
		{batch(put("x", nil), casNone("a", nil)), code(api.ErrCas)},
		{open("new", 2), api.Answer{}},
		{open("new", 1), code(api.ErrOld)},
		{open("mid", 1), code(api.ErrSame)},
		{ack("mid", 20), api.Answer{}},
		{ack("mid", 21), code(api.ErrArg)},
		{ack("mid", 8), code(api.ErrOld)},
		{closing("mid"), api.Answer{}},
		{closing("new"), code(api.ErrNone)},
		{trim(20), api.Answer{}},
		{trim(-1), api.Answer{}},
		{get("a"), api.Answer{Has: true, Doc: a(1)}},
		{get("x"), api.Answer{}},
		{get(""), code(api.ErrArg)},
		{scan("", "k", 9), api.Answer{Docs: []api.Named{named("a", a(1)), named("b", nil)}}},
		{scan("", "", 25), code(api.ErrArg)},
		{read("mid", 2), api.Answer{News: news(9, 11), N: 9, Total: 20}},
		{read("late", 16), api.Answer{N: 20, Total: 20}},
		{read("new", 2), code(api.ErrNone)},
		{read("mid", 17), code(api.ErrArg)},
		{pull(2, 16), api.Answer{News: news(2, 18), Total: 20}},
		{pull(20, 1), api.Answer{Total: 20}},
		{pull(1, 1), code(api.ErrOld)},
		{pull(21, 1), code(api.ErrArg)},
		{snap(), api.Answer{Docs: d.Docs, N: 20}},
		{api.Op{Kind: api.OpFind, Key: "a", Most: 1}, code(api.ErrArg)},
	} {
		if _, told, e := depot.Apply(d, of(0, 0, c.o)); e != api.OK || !sameAnswer(told, c.told) {
			t.Errorf("%+v: %+v, error %d; want %+v", c.o, told, e, c.told)
		}
	}
	if _, told, e := depot.Apply(api.Depot{}, of(0, 0, snap())); e != api.OK || !sameAnswer(told, api.Answer{}) {
		t.Errorf("OpSnap of none: %+v, error %d", told, e)
	}
}

func TestOtherKinds(t *testing.T) {
	for _, d := range depots() {
		for _, o := range others() {
			// They are none that turn, so no client's number is looked at, and none is remembered.
			for _, q := range []api.Request{of(0, 0, o), of(1, 1, o), of(5, 7, o), of(5, 1, o), of(-1, -1, o), of(77, 1, o)} {
				want(t, d, q, d, code(api.ErrArg))
			}
		}
	}
}

// De1: changes

func TestChangesFollow(t *testing.T) {
	d := busy()
	four := batch(put("x", a(3)), del("a"), put("x", a(4)), casNone("a", nil))
	right := plainDepot(d)
	right.Docs = []api.Named{named("a", nil), named("b", nil), named("k5", a(5)), named("x", a(4))}
	right.Feed.Total = 24
	right.Feed.Changes = append(right.Feed.Changes, stands(21, "x", a(3)), gone(22, "a"), stands(23, "x", a(4)), stands(24, "a", nil))
	want(t, d, of(0, 0, four), right, api.Answer{N: 24})

	d = api.Depot{Feed: api.Feed{Base: 7, Total: 7}}
	want(t, d, of(0, 0, put("x", nil)), api.Depot{
		Docs: []api.Named{named("x", nil)}, Feed: api.Feed{Base: 7, Total: 8, Changes: []api.Change{stands(8, "x", nil)}},
	}, api.Answer{N: 8})
}

func TestChangesAtTheGreatestCount(t *testing.T) {
	const top = api.MaxCount
	four := []api.Op{put("x", nil), del("x"), put("y", a(1)), del("y")}
	for left := range 14 {
		d := worn(top - left)
		for n := range 4 {
			q := of(0, 0, batch(four[:n+1]...))
			if left < 8 {
				want(t, d, q, d, code(api.ErrFull))
				continue
			}
			then, told, _ := depot.Apply(d, q)
			if told.Code != api.OK || told.N != top-left+n+1 || then.Feed.Total != told.N {
				t.Errorf("%d left: %+v", left, told)
			}
		}
		for _, o := range turning() {
			then, right := asked(d, o)
			writes := slices.Contains([]int{api.OpPut, api.OpDelete, api.OpCas, api.OpBatch}, o.Kind)
			if writes && (left < 8) != (right.Code == api.ErrFull) {
				t.Fatalf("%d left: %+v tells %d", left, o, right.Code)
			}
			want(t, d, of(0, 0, o), then, right)
		}
	}
}

// Without room for changes all else is done as ever.
func TestReadingAtTheGreatestCount(t *testing.T) {
	const top = api.MaxCount
	for left := range 10 {
		total := top - left
		d := worn(total)
		want(t, d, of(0, 0, get("00001")), d, api.Answer{Has: true, Doc: a(1)})
		want(t, d, of(0, 0, scan("", "", 2)), d, api.Answer{Docs: row(2)})
		want(t, d, of(0, 0, read("s", 1)), d, api.Answer{News: news(total-2, total-1), N: total - 2, Total: total})
		want(t, d, of(0, 0, pull(total-3, 16)), d, api.Answer{News: news(total-3, total), Total: total})
		want(t, d, of(0, 0, snap()), d, api.Answer{Docs: row(3), N: total})
		then := plainDepot(d)
		then.Feed.Subs[0].Pos = total
		want(t, d, of(0, 0, ack("s", total)), then, api.Answer{})
		then = plainDepot(d)
		then.Feed = feedOf(total-2, total, d.Feed.Subs...)
		want(t, d, of(0, 0, trim(total)), then, api.Answer{})
	}
}
