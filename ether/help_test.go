package ether_test

import (
	"fmt"
	"math"
	"reflect"
	"slices"
	"testing"

	"tailrace/api"
	"tailrace/ether"
)

func parcel(s string) api.Parcel { return api.Parcel{B: []byte(s)} }

func bent(s string) api.Parcel { return api.Parcel{B: []byte(s), Bent: true} }

func bag(from, to int, l ...api.Parcel) api.Bag { return api.Bag{From: from, To: to, L: l} }

func of(bags ...api.Bag) api.Ether { return api.Ether{Bags: bags} }

// cut is an ether in which nothing goes between these nodes, two by two.
func cut(e api.Ether, nodes ...int) api.Ether {
	for pair := range slices.Chunk(nodes, 2) {
		e.Cuts = append(e.Cuts, [2]int{pair[0], pair[1]})
	}
	return e
}

// row is so many parcels, 0, 1, ..
func row(n int) []api.Parcel {
	var l []api.Parcel
	for i := range n {
		l = append(l, parcel(fmt.Sprint(i)))
	}
	return l
}

// bags is so many bags of a parcel each, the first ones there may be of 33 nodes.
func bags(n int) []api.Bag {
	var l []api.Bag
	for from := 1; from <= 33; from++ {
		for to := 1; to <= 33; to++ {
			if from != to && len(l) < n {
				l = append(l, bag(from, to, parcel(fmt.Sprint(from, to))))
			}
		}
	}
	return l
}

// allCuts is those of all nodes from 1 on up to one.
func allCuts(nodes int) [][2]int {
	var l [][2]int
	for a := 1; a <= nodes; a++ {
		for b := a + 1; b <= nodes; b++ {
			l = append(l, [2]int{a, b})
		}
	}
	return l
}

// busy is an ether that has something of all.
func busy() api.Ether {
	e := of(
		bag(1, 2, parcel("a"), bent("b"), parcel("")), bag(1, 999, parcel("c")), bag(2, 1, parcel("d"), parcel("d")),
		bag(7, 5, row(64)...), bag(999, 1, bent("e")), bag(999, 998, parcel("f"), parcel("g")),
	)
	return cut(e, 1, 7, 2, 7, 3, 999)
}

// ethers are those that may be.
func ethers() []api.Ether {
	return []api.Ether{
		{}, {Bags: []api.Bag{}, Cuts: [][2]int{}}, busy(),
		of(bag(1, 2, parcel("a"))), of(bag(2, 1, parcel("a"))), of(bag(1, 999, parcel("a"))), of(bag(999, 1, parcel("a"))), of(bag(998, 999, row(64)...)),
		of(bag(1, 2, api.Parcel{})), of(bag(1, 2, api.Parcel{Bent: true})), of(bag(1, 2, row(1)...), bag(1, 3, row(63)...)),
		of(bags(1023)...), of(bags(1024)...),
		// By numbers, not by their digits.
		of(bag(2, 9, row(1)...), bag(2, 10, row(2)...), bag(10, 9, row(3)...)),
		cut(api.Ether{}, 1, 2), cut(api.Ether{}, 1, 999), cut(api.Ether{}, 998, 999), cut(api.Ether{}, 1, 2, 1, 3, 2, 3), cut(api.Ether{}, 2, 9, 2, 10, 9, 10),
		{Cuts: allCuts(60)}, {Cuts: [][2]int{{1, 2}}, Bags: bags(1024)[33:]},
		// A bag beside what is cut.
		cut(of(bag(1, 2, row(1)...), bag(2, 3, row(1)...)), 1, 3), cut(of(bag(3, 4, row(1)...)), 3, 5, 4, 5),
	}
}

// noEthers are those that may not be, each for one reason.
func noEthers() []api.Ether {
	one := func(from, to int) api.Bag { return bag(from, to, parcel("x")) }
	l := []api.Ether{
		of(append(bags(1024), one(999, 1))...), {Bags: make([]api.Bag, 1)},
		of(one(0, 1)), of(one(1, 0)), of(one(-1, 1)), of(one(1, -1)), of(one(1000, 1)), of(one(1, 1000)), of(one(1, 1)), of(one(999, 999)), of(one(0, 0)), of(one(-2, -1)), of(one(1000, 1001)),
		of(one(math.MinInt, 1)), of(one(1, math.MinInt)), of(one(math.MaxInt, 1)), of(one(1, math.MaxInt)), of(one(math.MinInt, math.MaxInt)),
		of(one(1, 2), one(1, 2)), of(one(1, 3), one(1, 2)), of(one(2, 1), one(1, 2)), of(one(2, 1), one(1, 3)), of(one(1, 2), one(3, 1), one(2, 3)), of(one(1, 2), one(2, 1), one(2, 1)), of(one(1, 2), one(2, 4), one(2, 3)),
		of(one(1, 2), one(3, 3)), of(one(1, 2), one(3, 1000)), of(one(0, 2), one(1, 2)), of(one(1, 2), bag(1, 3), one(1, 4)),
		of(bag(1, 2)), of(bag(1, 2, []api.Parcel{}...)), of(one(1, 2), bag(1, 3)), of(bag(1, 2), one(1, 3)),
		of(bag(1, 2, row(65)...)), of(one(1, 2), bag(1, 3, row(65)...)), of(bag(1, 2, row(1000)...)), of(bag(1, 2, make([]api.Parcel, 65)...)),
		cut(api.Ether{}, 2, 1), cut(api.Ether{}, 1, 1), cut(api.Ether{}, 0, 1), cut(api.Ether{}, -1, 1), cut(api.Ether{}, 0, 0), cut(api.Ether{}, 1, 1000), cut(api.Ether{}, 999, 1000), cut(api.Ether{}, 1000, 1001), cut(api.Ether{}, -2, -1), cut(api.Ether{}, 999, 999),
		cut(api.Ether{}, math.MinInt, 1), cut(api.Ether{}, 1, math.MaxInt), cut(api.Ether{}, math.MinInt, math.MaxInt), cut(api.Ether{}, 5, math.MinInt),
		cut(api.Ether{}, 1, 2, 1, 2), cut(api.Ether{}, 1, 3, 1, 2), cut(api.Ether{}, 2, 3, 1, 2), cut(api.Ether{}, 2, 3, 1, 4), cut(api.Ether{}, 1, 2, 3, 4, 2, 3), cut(api.Ether{}, 1, 2, 2, 3, 2, 3), cut(api.Ether{}, 1, 2, 3, 2), cut(api.Ether{}, 1, 2, 3, 3), cut(api.Ether{}, 0, 2, 1, 2),
		// A bag between two that are cut, this way or that.
		cut(of(one(1, 2)), 1, 2), cut(of(one(2, 1)), 1, 2), cut(of(one(1, 2), one(2, 1)), 1, 2), cut(of(one(1, 2), one(998, 999)), 998, 999), cut(of(one(1, 2), one(999, 998)), 1, 3, 998, 999), cut(of(one(3, 5), one(4, 5)), 3, 4, 3, 5, 3, 6), cut(of(one(1, 2), one(2, 3)), 1, 2, 1, 3),
	}
	// The same beside something that may be.
	for _, e := range slices.Clone(l) {
		if len(e.Cuts) == 0 {
			l = append(l, cut(of(e.Bags...), 500, 501))
		}
		if len(e.Bags) == 0 {
			l = append(l, api.Ether{Bags: []api.Bag{one(500, 501)}, Cuts: e.Cuts})
		}
	}
	return l
}

// act is one from a node to another one.
func act(kind, a, b, n, w int) api.Act { return api.Act{Kind: kind, A: a, B: b, N: n, W: w} }

// kinds are those of which something may come.
func kinds() []int {
	return []int{api.ActDeliver, api.ActDrop, api.ActTwice, api.ActBend, api.ActCut, api.ActMend}
}

// otherKinds are those of which nothing comes.
func otherKinds() []int {
	l := []int{math.MinInt, -1, 0, api.ActKinds, api.ActKinds + 1, math.MaxInt}
	for k := api.ActTick; k < api.ActKinds; k++ {
		l = append(l, k)
	}
	return l
}

// noPairs are numbers that are none of two unlike nodes.
func noPairs() [][2]int {
	return [][2]int{
		{0, 1}, {1, 0}, {0, 0}, {-1, 1}, {1, -1}, {-1, -2}, {1000, 1}, {1, 1000}, {1000, 1000}, {1000, 1001}, {1, 1}, {999, 999}, {7, 7}, {0, 1000},
		{math.MinInt, 1}, {1, math.MinInt}, {math.MaxInt, 1}, {1, math.MaxInt}, {math.MinInt, math.MaxInt}, {math.MaxInt, math.MinInt}, {math.MinInt, math.MinInt}, {1 << 32, 1<<32 + 1}, {1<<32 + 1, 2},
	}
}

// plain is an ether with nil for each empty list in it, so that ethers can be
// held against each other by another way than the program's.
func plain(e api.Ether) api.Ether {
	var out api.Ether
	for _, b := range e.Bags {
		g := bag(b.From, b.To)
		for _, p := range b.L {
			g.L = append(g.L, api.Parcel{B: append([]byte(nil), p.B...), Bent: p.Bent})
		}
		out.Bags = append(out.Bags, g)
	}
	out.Cuts = append([][2]int(nil), e.Cuts...)
	return out
}

func same(x, y api.Ether) bool { return reflect.DeepEqual(plain(x), plain(y)) }

// wantPut lets bytes go, and holds what comes of it against what must.
func wantPut(t *testing.T, e api.Ether, from, to int, b string, then api.Ether) {
	t.Helper()
	got, code := ether.Put(e, from, to, []byte(b))
	if code != api.OK || !same(got, then) {
		t.Fatalf("Put(%+v, %d, %d, %q) = %+v, error %d; want %+v", e, from, to, b, got, code, then)
	}
	if ether.Check(got) != api.OK {
		t.Fatalf("Put(%+v, %d, %d, %q): what comes of it may not be", e, from, to, b)
	}
}

// want does an act of which nothing is told.
func want(t *testing.T, e api.Ether, a api.Act, then api.Ether) {
	t.Helper()
	wantAll(t, e, a, then, "", false)
}

// wantTold does one of which something is.
func wantTold(t *testing.T, e api.Ether, a api.Act, then api.Ether, told string) {
	t.Helper()
	wantAll(t, e, a, then, told, true)
}

func wantAll(t *testing.T, e api.Ether, a api.Act, then api.Ether, told string, comes bool) {
	t.Helper()
	got, b, came, code := ether.Do(e, a)
	if code != api.OK || !same(got, then) || string(b) != told || came != comes {
		t.Fatalf("Do(%+v, %+v) = %+v, %q, %t, error %d; want %+v, %q, %t", e, a, got, b, came, code, then, told, comes)
	}
	if ether.Check(got) != api.OK {
		t.Fatalf("Do(%+v, %+v): what comes of it may not be", e, a)
	}
}

// dice throw the same numbers each time.
type dice uint32

func (d *dice) throw(n int) int {
	*d = *d*1664525 + 1013904223
	return int(*d>>8) % n
}
