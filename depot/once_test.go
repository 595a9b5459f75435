package depot_test

import (
	"math"
	"slices"
	"testing"

	"tailrace/api"
	"tailrace/depot"
)

// De1, De2: once

// noNumbers are those that are no client's, and no request's; 0 is no
// request's, and nobody's.
func noNumbers() []int {
	return []int{-1, math.MinInt, api.MaxCount + 1, math.MaxInt, -api.MaxCount}
}

func TestOnceRefusesNumbers(t *testing.T) {
	for _, d := range depots() {
		for _, o := range turning() {
			for _, n := range noNumbers() {
				for _, q := range []api.Request{of(n, 1, o), of(n, 0, o), of(n, n, o), of(1, n, o), of(5, n, o), of(10, n, o), of(api.MaxCount, n, o), of(77, n, o)} {
					want(t, d, q, d, code(api.ErrArg))
				}
			}
			for _, client := range []int{1, 5, 10, 77, api.MaxCount} {
				want(t, d, of(client, 0, o), d, code(api.ErrArg))
			}
		}
	}
}

// Whatever is asked, done or refused, is remembered with its answer.
func TestOnceIsRemembered(t *testing.T) {
	const top = api.MaxCount
	for _, d := range depots() {
		for _, o := range turning() {
			then, right := asked(d, o)
			for _, q := range []api.Request{of(1, 1, o), of(2, 7, o), of(7, top, o), of(top-2, 1, o), of(top, top, o)} {
				known := slices.ContainsFunc(d.Last, func(l api.Last) bool { return l.Client == q.Client })
				if known || len(d.Last) == api.MaxLast {
					continue
				}
				behind := with(then, last(q.Client, q.Id, right))
				want(t, d, q, behind, right)
				want(t, behind, q, behind, right)
			}
		}
	}
}

func TestOnceOfAClientThatIsKnown(t *testing.T) {
	const top = api.MaxCount
	for _, d := range depots() {
		for _, l := range d.Last {
			for _, o := range turning() {
				then, right := asked(d, o)
				// Of the same Id that answer, whatever is asked by then, and however odd it is.
				want(t, d, of(l.Client, l.Id, o), d, l.Answer)
				for _, id := range []int{1, l.Id / 2, l.Id - 1} {
					if 1 <= id && id < l.Id {
						want(t, d, of(l.Client, id, o), d, code(api.ErrOld))
					}
				}
				for _, id := range []int{l.Id + 1, l.Id + 9, top - 1, top} {
					if l.Id < id && id <= top {
						want(t, d, of(l.Client, id, o), with(then, last(l.Client, id, right)), right)
					}
				}
			}
		}
	}
}

func TestOnceOfOneClientTooMany(t *testing.T) {
	d := full()
	for _, o := range turning() {
		for _, client := range []int{1, 9, 11, 45, 79, 81, api.MaxCount} {
			for _, id := range []int{1, 2, api.MaxCount} {
				want(t, d, of(client, id, o), d, code(api.ErrFull))
			}
		}
	}
	// The eighth has room, wherever it stands.
	for _, client := range []int{1, 9, 11, 45, 69, 71, 80, api.MaxCount} {
		d := api.Depot{Last: lasts(7)}
		want(t, d, of(client, 3, open("o", 0)), with(api.Depot{Feed: feedOf(0, 0, sub("o", 0)), Last: d.Last}, last(client, 3, api.Answer{})), api.Answer{})
	}
}

// Each error comes ahead of those that the chapter names behind it.
func TestOnceTellsTheFirstError(t *testing.T) {
	const top = api.MaxCount
	d := full()
	d.Feed = feedOf(top-3, top)
	for _, c := range []struct {
		what  string
		q     api.Request
		right api.Errno
	}{
		{"no Id, no room for clients", of(5, 0, put("x", nil)), api.ErrArg},
		{"no Id, of one that is known", of(30, 0, put("x", nil)), api.ErrArg},
		{"too great an Id", of(30, top+1, put("x", nil)), api.ErrArg},
		{"no client", of(-30, 3, put("x", nil)), api.ErrArg},
		{"an elder one, no room for changes", of(30, 2, put("x", nil)), api.ErrOld},
		{"an elder one, no key", of(30, 1, open("", 0)), api.ErrOld},
		{"no room for clients, no key", of(5, 1, open("", 0)), api.ErrFull},
		{"no room for clients, nor such a name", of(5, 1, closing("nobody")), api.ErrFull},
	} {
		if then, told, e := depot.Apply(d, c.q); e != api.OK || !sameAnswer(told, code(c.right)) || !sameDepot(then, d) {
			t.Errorf("%s: %+v, error %d; want %d", c.what, told, e, c.right)
		}
	}
	// The answer that is remembered comes ahead of there being no room; a new one is done, and refused.
	want(t, d, of(30, 3, put("x", nil)), d, api.Answer{N: 2})
	want(t, d, of(30, 4, put("x", nil)), with(d, last(30, 4, code(api.ErrFull))), code(api.ErrFull))
	// No room for changes comes ahead of what layer 12 would tell.
	want(t, d, of(0, 0, put("", odd())), d, code(api.ErrFull))
	want(t, d, of(0, 0, del("nowhere")), d, code(api.ErrFull))
	want(t, d, of(0, 0, cas("00001", a(7), nil)), d, code(api.ErrFull))
	want(t, d, of(0, 0, batch()), d, code(api.ErrFull))
}

// De2: what is refused stays refused, though it might be done by then.
func TestWhatIsRefusedStaysRefused(t *testing.T) {
	x := of(5, 1, del("x"))
	d, told, _ := depot.Apply(api.Depot{}, x)
	if told.Code != api.ErrNone {
		t.Fatalf("delete of none: %+v", told)
	}
	d, _, _ = depot.Apply(d, of(6, 1, put("x", a(1))))
	want(t, d, x, d, code(api.ErrNone))
	c := of(7, 1, casNone("x", nil))
	d, told, _ = depot.Apply(d, c)
	right := api.Answer{Code: api.ErrCas, Has: true, Doc: a(1)}
	if !sameAnswer(told, right) {
		t.Fatalf("cas: %+v", told)
	}
	d, _, _ = depot.Apply(d, of(6, 2, del("x")))
	want(t, d, c, d, right)
	want(t, d, x, d, code(api.ErrNone))
	want(t, d, of(6, 1, put("x", a(1))), d, code(api.ErrOld))
}

func TestNobodyIsNotRemembered(t *testing.T) {
	for _, q := range []api.Request{of(0, 1, put("x", a(1))), of(0, 0, put("x", a(1)))} {
		d := api.Depot{}
		for i := range 20 {
			then, told, e := depot.Apply(d, q)
			if e != api.OK || told.N != i+1 || then.Feed.Total != i+1 || len(then.Last) != 0 {
				t.Fatalf("nobody's put, the %dth: %+v, %+v, error %d", i, then, told, e)
			}
			d = then
		}
	}
}

// De2: what reads is done each time, whoever asks, and turns nothing.
func TestReadingTurnsNothing(t *testing.T) {
	for _, d := range depots() {
		for _, o := range reading() {
			_, right := asked(d, o)
			for _, client := range append(noNumbers(), 0, 1, 5, 10, 77, api.MaxCount) {
				for _, id := range append(noNumbers(), 0, 1, 7, api.MaxCount) {
					want(t, d, of(client, id, o), d, right)
				}
			}
		}
	}
}

func TestReadingIsDoneEachTime(t *testing.T) {
	q := of(5, 1, get("x"))
	d := api.Depot{}
	want(t, d, q, d, api.Answer{})
	d, _, _ = depot.Apply(d, of(5, 1, put("x", a(1))))
	want(t, d, q, d, api.Answer{Has: true, Doc: a(1)})
	d, _, _ = depot.Apply(d, of(5, 2, put("x", a(2))))
	want(t, d, q, d, api.Answer{Has: true, Doc: a(2)})
	want(t, d, of(5, 1, read("s", 1)), d, code(api.ErrNone))
	d, _, _ = depot.Apply(d, of(6, 1, open("s", 1)))
	want(t, d, of(5, 1, read("s", 1)), d, api.Answer{News: []api.Change{stands(2, "x", a(2))}, N: 1, Total: 2})
}
