package ether_test

import (
	"fmt"
	"reflect"
	"slices"
	"testing"

	"tailrace/api"
	"tailrace/ether"
)

// The chapter's example.
func TestExample(t *testing.T) {
	e, code := ether.Put(api.Ether{}, 1, 2, []byte("x"))
	if code != api.OK || !same(e, of(bag(1, 2, parcel("x")))) {
		t.Fatalf("Put: %+v, error %d", e, code)
	}
	want(t, e, act(api.ActCut, 2, 1, 0, 0), cut(api.Ether{}, 1, 2))
}

// Et1: what may be, and what may not.

func TestCheck(t *testing.T) {
	for i, e := range ethers() {
		if code := ether.Check(e); code != api.OK {
			t.Errorf("ether %d: %+v: error %d", i, e, code)
		}
	}
	for i, e := range noEthers() {
		if code := ether.Check(e); code != api.ErrArg {
			t.Errorf("no ether %d: %+v: error %d", i, e, code)
		}
	}
}

// All orders of some bags, and of some cuts: but one of each may be.
func TestCheckOfOrders(t *testing.T) {
	pairs := [][2]int{{1, 2}, {1, 3}, {2, 3}, {2, 10}, {9, 10}}
	for i := range 5 * 5 * 5 {
		l := [][2]int{pairs[i%5], pairs[i/5%5], pairs[i/25]}
		rising := i%5 < i/5%5 && i/5%5 < i/25
		var e, back api.Ether
		for _, p := range l {
			e.Bags = append(e.Bags, bag(p[0], p[1], parcel("x")))
			back.Bags = append(back.Bags, bag(p[1], p[0], parcel("x")))
		}
		if code := ether.Check(e); (code == api.OK) != rising {
			t.Errorf("bags %v: error %d", l, code)
		}
		if code := ether.Check(api.Ether{Cuts: l}); (code == api.OK) != rising {
			t.Errorf("cuts %v: error %d", l, code)
		}
		order := slices.IsSortedFunc(back.Bags, func(x, y api.Bag) int { return 1000*(x.From-y.From) + x.To - y.To })
		twice := l[0] == l[1] || l[0] == l[2] || l[1] == l[2]
		if code := ether.Check(back); (code == api.OK) != (order && !twice) {
			t.Errorf("bags back of %v: error %d", l, code)
		}
	}
}

// Each bag about each cut of some nodes.
func TestCheckOfBagsAndCuts(t *testing.T) {
	cuts := allCuts(6)
	for _, c := range cuts {
		for from := 1; from <= 6; from++ {
			for to := 1; to <= 6; to++ {
				if from == to {
					continue
				}
				between := from == c[0] && to == c[1] || from == c[1] && to == c[0]
				e := api.Ether{Bags: []api.Bag{bag(from, to, parcel("x"))}, Cuts: [][2]int{c}}
				if code := ether.Check(e); (code == api.ErrArg) != between {
					t.Errorf("%+v: error %d", e, code)
				}
				// All cuts but one.
				e.Cuts = slices.DeleteFunc(slices.Clone(cuts), func(d [2]int) bool { return d == c })
				if code := ether.Check(e); (code == api.OK) != between {
					t.Errorf("%+v: error %d", e, code)
				}
			}
		}
	}
}

// Et1: Put.

func TestPut(t *testing.T) {
	wantPut(t, api.Ether{}, 1, 2, "x", of(bag(1, 2, parcel("x"))))
	wantPut(t, api.Ether{}, 2, 1, "x", of(bag(2, 1, parcel("x"))))
	wantPut(t, api.Ether{}, 1, 999, "x", of(bag(1, 999, parcel("x"))))
	wantPut(t, api.Ether{}, 999, 1, "x", of(bag(999, 1, parcel("x"))))
	wantPut(t, api.Ether{}, 999, 998, "", of(bag(999, 998, parcel(""))))
	// It is the last one of the bag, also behind one that is alike or bent.
	wantPut(t, of(bag(1, 2, parcel("b"), parcel("a"))), 1, 2, "a", of(bag(1, 2, parcel("b"), parcel("a"), parcel("a"))))
	wantPut(t, of(bag(1, 2, bent("a"))), 1, 2, "a", of(bag(1, 2, bent("a"), parcel("a"))))
	// The other way is another bag.
	wantPut(t, of(bag(1, 2, parcel("a"))), 2, 1, "b", of(bag(1, 2, parcel("a")), bag(2, 1, parcel("b"))))
	// Any bytes.
	wantPut(t, api.Ether{}, 3, 4, "\x00\xff\x00", of(bag(3, 4, parcel("\x00\xff\x00"))))
	long := string(make([]byte, 1<<17))
	wantPut(t, api.Ether{}, 3, 4, long, of(bag(3, 4, parcel(long))))
	if e, code := ether.Put(api.Ether{}, 1, 2, nil); code != api.OK || !same(e, of(bag(1, 2, api.Parcel{}))) {
		t.Errorf("Put of nil: %+v, error %d", e, code)
	}
}

// A new bag stands where its numbers are, ahead of, between and behind others.
func TestPutInOrder(t *testing.T) {
	e := of(bag(2, 4, parcel("a")), bag(2, 10, parcel("b")), bag(9, 3, parcel("c")), bag(10, 2, parcel("d")))
	for i, p := range [][2]int{{1, 999}, {2, 1}, {2, 3}, {2, 5}, {2, 9}, {2, 11}, {2, 999}, {3, 1}, {9, 1}, {9, 2}, {9, 4}, {9, 10}, {10, 1}, {10, 3}, {11, 1}, {999, 1}} {
		then := plain(e)
		then.Bags = append(then.Bags, bag(p[0], p[1], parcel("x")))
		slices.SortFunc(then.Bags, func(x, y api.Bag) int { return 1000*(x.From-y.From) + x.To - y.To })
		if ether.Check(then) != api.OK {
			t.Fatalf("%d: %+v may not be", i, then)
		}
		wantPut(t, e, p[0], p[1], "x", then)
	}
	for i, b := range e.Bags {
		then := plain(e)
		then.Bags[i].L = append(then.Bags[i].L, parcel("x"))
		wantPut(t, e, b.From, b.To, "x", then)
	}
}

func TestPutOfNoNodes(t *testing.T) {
	for _, e := range ethers() {
		for _, p := range noPairs() {
			if got, code := ether.Put(e, p[0], p[1], []byte("x")); code != api.ErrArg || !reflect.DeepEqual(got, api.Ether{}) {
				t.Errorf("Put(%+v, %v) = %+v, error %d", e, p, got, code)
			}
		}
	}
}

// What is put between two that are cut is lost, whichever way; others come through.
func TestPutOfCut(t *testing.T) {
	e := cut(of(bag(1, 2, parcel("a"))), 1, 3, 2, 4, 998, 999)
	for _, p := range [][2]int{{1, 3}, {3, 1}, {2, 4}, {4, 2}, {998, 999}, {999, 998}} {
		wantPut(t, e, p[0], p[1], "x", e)
	}
	wantPut(t, e, 1, 2, "x", cut(of(bag(1, 2, parcel("a"), parcel("x"))), 1, 3, 2, 4, 998, 999))
	wantPut(t, e, 1, 4, "x", cut(of(bag(1, 2, parcel("a")), bag(1, 4, parcel("x"))), 1, 3, 2, 4, 998, 999))
	wantPut(t, e, 3, 4, "x", cut(of(bag(1, 2, parcel("a")), bag(3, 4, parcel("x"))), 1, 3, 2, 4, 998, 999))
	wantPut(t, e, 999, 1, "x", cut(of(bag(1, 2, parcel("a")), bag(999, 1, parcel("x"))), 1, 3, 2, 4, 998, 999))
}

// What is put into a full bag is lost; the 64th was not.
func TestPutOfFullBag(t *testing.T) {
	e := api.Ether{}
	for i := range 64 {
		wantPut(t, e, 1, 2, fmt.Sprint(i), of(bag(1, 2, row(i+1)...)))
		e, _ = ether.Put(e, 1, 2, []byte(fmt.Sprint(i)))
	}
	wantPut(t, e, 1, 2, "64", e)
	wantPut(t, e, 1, 2, "", e)
	wantPut(t, e, 2, 1, "x", of(bag(1, 2, row(64)...), bag(2, 1, parcel("x"))))
	wantPut(t, of(bag(1, 2, row(62)...), bag(1, 3, row(64)...)), 1, 2, "62", of(bag(1, 2, row(63)...), bag(1, 3, row(64)...)))
}

// Where there are 1024 bags, one of them takes more, and no other one comes.
func TestPutOfManyBags(t *testing.T) {
	e := of(bags(1024)...)
	for _, p := range [][2]int{{33, 1}, {33, 32}, {33, 34}, {34, 33}, {999, 1}, {1, 999}, {1, 34}, {2, 998}} {
		_, has := slices.BinarySearchFunc(e.Bags, p, func(b api.Bag, p [2]int) int { return 1000*(b.From-p[0]) + b.To - p[1] })
		if !has {
			wantPut(t, e, p[0], p[1], "x", e)
		}
	}
	for _, i := range []int{0, 1, 500, 1022, 1023} {
		then := plain(e)
		then.Bags[i].L = append(then.Bags[i].L, parcel("x"))
		wantPut(t, e, e.Bags[i].From, e.Bags[i].To, "x", then)
	}
	less := of(bags(1023)...)
	wantPut(t, less, e.Bags[1023].From, e.Bags[1023].To, string(e.Bags[1023].L[0].B), e)
	wantPut(t, less, 999, 1, "x", of(append(bags(1023), bag(999, 1, parcel("x")))...))
	// Full and many.
	full := of(bags(1024)...)
	full.Bags[7].L = row(64)
	wantPut(t, full, full.Bags[7].From, full.Bags[7].To, "x", full)
	// Cut and many: a cut counts for no bag.
	cutting := cut(of(append(bags(1024)[33:], bag(998, 999, parcel("y")))...), 1, 2)
	wantPut(t, cutting, 999, 1, "x", cut(of(append(bags(1024)[33:], bag(998, 999, parcel("y")), bag(999, 1, parcel("x")))...), 1, 2))
}

// Et1: Count.

func TestCount(t *testing.T) {
	for _, e := range ethers() {
		n := 0
		for _, b := range e.Bags {
			n += len(b.L)
		}
		if got := ether.Count(e); got != n {
			t.Errorf("Count(%+v) = %d; want %d", e, got, n)
		}
	}
	if n := ether.Count(busy()); n != 73 {
		t.Errorf("Count of the busy one = %d", n)
	}
	if n := ether.Count(of(bags(1024)...)); n != 1024 {
		t.Errorf("Count of many bags = %d", n)
	}
	for _, e := range noEthers() {
		if n := ether.Count(e); n != 0 {
			t.Errorf("Count(%+v) = %d", e, n)
		}
	}
}

// As full as can be: 65536 parcels, and no room for one more.
func TestFullEther(t *testing.T) {
	e := of(bags(1024)...)
	for i := range e.Bags {
		e.Bags[i].L = row(64)
	}
	if ether.Check(e) != api.OK || ether.Count(e) != 65536 {
		t.Fatalf("error %d, count %d", ether.Check(e), ether.Count(e))
	}
	for _, i := range []int{0, 1000, 1023} {
		from, to := e.Bags[i].From, e.Bags[i].To
		wantPut(t, e, from, to, "x", e)
		want(t, e, act(api.ActTwice, from, to, 5, 0), e)
		then := plain(e)
		then.Bags[i].L = then.Bags[i].L[1:]
		wantTold(t, e, act(api.ActDeliver, from, to, 64, 0), then, "0")
		then.Bags = slices.Delete(then.Bags, i, i+1)
		if from > to {
			from, to = to, from
		}
		then.Cuts = [][2]int{{from, to}}
		then.Bags = slices.DeleteFunc(then.Bags, func(b api.Bag) bool { return b.From == to && b.To == from || b.From == from && b.To == to })
		want(t, e, act(api.ActCut, from, to, 0, 0), then)
	}
	wantPut(t, e, 999, 1, "x", e)
}

// Et1: Same.

func TestSame(t *testing.T) {
	all := append(ethers(), noEthers()...)
	for i, x := range all {
		for j, y := range all {
			if got := ether.Same(x, plain(y)); got != same(x, y) {
				t.Errorf("Same of %d and %d, %+v and %+v: %t", i, j, x, y, got)
			}
		}
	}
}

func TestSameOfAlmostAlike(t *testing.T) {
	turns := []func(e *api.Ether){
		func(e *api.Ether) { e.Bags[1].From = 2 },
		func(e *api.Ether) { e.Bags[1].To = 998 },
		func(e *api.Ether) { e.Bags[0].L[0].B[0]++ },
		func(e *api.Ether) { e.Bags[0].L[0].B = append(e.Bags[0].L[0].B, 0) },
		func(e *api.Ether) { e.Bags[0].L[2].B = []byte{0} },
		func(e *api.Ether) { e.Bags[0].L[0].Bent = true },
		func(e *api.Ether) { e.Bags[0].L[1].Bent = false },
		func(e *api.Ether) { e.Bags[5].L[1].B = nil },
		func(e *api.Ether) { e.Bags[5].L[1].Bent = true },
		func(e *api.Ether) { e.Bags[5].L = e.Bags[5].L[:1] },
		func(e *api.Ether) { e.Bags[5].L = append(e.Bags[5].L, parcel("g")) },
		func(e *api.Ether) { e.Bags[5].L[0], e.Bags[5].L[1] = e.Bags[5].L[1], e.Bags[5].L[0] },
		func(e *api.Ether) { e.Bags = e.Bags[:5] },
		func(e *api.Ether) { e.Bags = e.Bags[1:] },
		func(e *api.Ether) { e.Bags[0], e.Bags[1] = e.Bags[1], e.Bags[0] },
		func(e *api.Ether) { e.Bags = nil },
		func(e *api.Ether) { e.Cuts[0][0]++ },
		func(e *api.Ether) { e.Cuts[2][1]-- },
		func(e *api.Ether) { e.Cuts[1][0], e.Cuts[1][1] = e.Cuts[1][1], e.Cuts[1][0] },
		func(e *api.Ether) { e.Cuts = e.Cuts[:2] },
		func(e *api.Ether) { e.Cuts = append(e.Cuts, [2]int{4, 5}) },
		func(e *api.Ether) { e.Cuts[0], e.Cuts[1] = e.Cuts[1], e.Cuts[0] },
		func(e *api.Ether) { e.Cuts = nil },
	}
	if !ether.Same(busy(), busy()) {
		t.Error("an ether is not like itself")
	}
	for i, turn := range turns {
		e := busy()
		turn(&e)
		if ether.Same(e, busy()) || ether.Same(busy(), e) {
			t.Errorf("turn %d is not seen", i)
		}
	}
	// R3: nil and the empty list are the same.
	x, y := of(bag(1, 2, api.Parcel{})), of(bag(1, 2, api.Parcel{B: []byte{}}))
	x.Cuts = [][2]int{}
	if !ether.Same(x, y) || !ether.Same(y, x) || !ether.Same(api.Ether{}, api.Ether{Bags: []api.Bag{}, Cuts: [][2]int{}}) || !ether.Same(of(bag(1, 2)), of(api.Bag{From: 1, To: 2, L: []api.Parcel{}})) {
		t.Error("nil and the empty list are not alike")
	}
}

// R2: of an ether that may not be all tell ErrArg, with zeros.
func TestNoEther(t *testing.T) {
	acts := []api.Act{{}}
	for _, kind := range append(kinds(), otherKinds()...) {
		acts = append(acts, act(kind, 1, 2, 0, 0), act(kind, 2, 1, 1, 3), act(kind, 500, 501, 0, 0), act(kind, 998, 999, -1, -1), act(kind, 0, 0, 0, 0))
	}
	for _, e := range noEthers() {
		for _, p := range append(noPairs(), [2]int{1, 2}, [2]int{2, 1}, [2]int{1, 3}, [2]int{998, 999}, [2]int{500, 501}) {
			if got, code := ether.Put(e, p[0], p[1], []byte("x")); code != api.ErrArg || !reflect.DeepEqual(got, api.Ether{}) {
				t.Errorf("Put(%+v, %v) = %+v, error %d", e, p, got, code)
			}
		}
		for _, a := range acts {
			if got, b, comes, code := ether.Do(e, a); code != api.ErrArg || !reflect.DeepEqual(got, api.Ether{}) || b != nil || comes {
				t.Errorf("Do(%+v, %+v) = %+v, %q, %t, error %d", e, a, got, b, comes, code)
			}
		}
	}
}
