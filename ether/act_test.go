package ether_test

import (
	"math"
	"slices"
	"testing"

	"tailrace/api"
	"tailrace/ether"
)

// Et2

// three is a bag of three from 3 to 4, another way round, and some about them.
func three() api.Ether {
	return cut(of(
		bag(3, 2, parcel("l")), bag(3, 4, parcel("a"), bent("b"), parcel("c")), bag(3, 5, parcel("r")),
		bag(4, 3, parcel("x"), parcel("y")),
	), 1, 2)
}

// with is three with another bag from 3 to 4, or none.
func with(l ...api.Parcel) api.Ether {
	e := three()
	e.Bags[1].L = l
	if len(l) == 0 {
		e.Bags = slices.Delete(e.Bags, 1, 2)
	}
	return e
}

func TestDeliver(t *testing.T) {
	wantTold(t, three(), act(api.ActDeliver, 3, 4, 0, 0), with(bent("b"), parcel("c")), "a")
	wantTold(t, three(), act(api.ActDeliver, 3, 4, 1, 0), with(parcel("a"), parcel("c")), "b")
	wantTold(t, three(), act(api.ActDeliver, 3, 4, 2, 0), with(parcel("a"), bent("b")), "c")
	wantTold(t, with(parcel("a")), act(api.ActDeliver, 3, 4, 0, 0), with(), "a")
	wantTold(t, with(bent("a")), act(api.ActDeliver, 3, 4, 5, 0), with(), "a")
	// No bytes come, too.
	wantTold(t, with(parcel(""), parcel("c")), act(api.ActDeliver, 3, 4, 0, 0), with(parcel("c")), "")
	wantTold(t, with(api.Parcel{}), act(api.ActDeliver, 3, 4, 0, 0), with(), "")
	// The first and the last bag.
	wantTold(t, busy(), act(api.ActDeliver, 1, 2, 2, 0), func() api.Ether {
		e := busy()
		e.Bags[0].L = e.Bags[0].L[:2]
		return e
	}(), "")
	e := busy()
	e.Bags[5].L = e.Bags[5].L[1:]
	wantTold(t, busy(), act(api.ActDeliver, 999, 998, 0, 0), e, "f")
	e = busy()
	e.Bags = slices.Delete(e.Bags, 1, 2)
	wantTold(t, busy(), act(api.ActDeliver, 1, 999, 0, 0), e, "c")
	e = cut(of(bag(1, 2, row(1)...)), 3, 4)
	wantTold(t, e, act(api.ActDeliver, 1, 2, 0, 0), cut(api.Ether{}, 3, 4), "0")
}

func TestDrop(t *testing.T) {
	want(t, three(), act(api.ActDrop, 3, 4, 0, 0), with(bent("b"), parcel("c")))
	want(t, three(), act(api.ActDrop, 3, 4, 1, 0), with(parcel("a"), parcel("c")))
	want(t, three(), act(api.ActDrop, 3, 4, 2, 0), with(parcel("a"), bent("b")))
	want(t, with(parcel("a")), act(api.ActDrop, 3, 4, 0, 0), with())
	want(t, with(parcel(""), parcel("c")), act(api.ActDrop, 3, 4, 0, 0), with(parcel("c")))
	want(t, of(bag(1, 2, row(1)...)), act(api.ActDrop, 1, 2, 0, 0), api.Ether{})
}

func TestTwice(t *testing.T) {
	want(t, three(), act(api.ActTwice, 3, 4, 0, 0), with(parcel("a"), bent("b"), parcel("c"), parcel("a")))
	want(t, three(), act(api.ActTwice, 3, 4, 1, 0), with(parcel("a"), bent("b"), parcel("c"), bent("b")))
	want(t, three(), act(api.ActTwice, 3, 4, 2, 0), with(parcel("a"), bent("b"), parcel("c"), parcel("c")))
	want(t, with(api.Parcel{}), act(api.ActTwice, 3, 4, 0, 0), with(api.Parcel{}, api.Parcel{}))
	// The 64th is there, no 65th.
	want(t, with(row(63)...), act(api.ActTwice, 3, 4, 5, 0), with(append(row(63), parcel("5"))...))
	for _, n := range []int{0, 1, 63, 64, -1} {
		want(t, with(row(64)...), act(api.ActTwice, 3, 4, n, 0), with(row(64)...))
	}
	// Other bags may be full, and there may be 1024 of them.
	e := of(bags(1024)...)
	e.Bags[0].L = row(64)
	then := plain(e)
	then.Bags[9].L = append(then.Bags[9].L, then.Bags[9].L[0])
	want(t, e, act(api.ActTwice, e.Bags[9].From, e.Bags[9].To, 0, 0), then)
}

func TestActBend(t *testing.T) {
	four := "\x00\x00\x00\x00"
	want(t, with(parcel("a"), parcel(four)), act(api.ActBend, 3, 4, 1, 1), with(parcel("a"), bent("\x0e\x3c\x80\x00")))
	want(t, with(parcel(four), parcel(four)), act(api.ActBend, 3, 4, 2, 24), with(bent("\x00\x00\x00\x94"), parcel(four)))
	want(t, with(parcel(four)), act(api.ActBend, 3, 4, 0, -2), with(bent("\x00\x00\x00\x03")))
	want(t, with(parcel(four)), act(api.ActBend, 3, 4, 0, math.MinInt), with(bent("\x80\x00\x00\x00")))
	// What is bent is bent no more, whether or not it was here.
	want(t, with(bent(four)), act(api.ActBend, 3, 4, 0, 1), with(bent(four)))
	want(t, with(bent("\x0e\x3c\x80\x00")), act(api.ActBend, 3, 4, 0, 1), with(bent("\x0e\x3c\x80\x00")))
	want(t, three(), act(api.ActBend, 3, 4, 1, 7), three())
	// Where nothing is turned it is bent all the same.
	want(t, with(parcel(four)), act(api.ActBend, 3, 4, 0, -1), with(bent(four)))
	want(t, with(api.Parcel{}), act(api.ActBend, 3, 4, 0, 5), with(api.Parcel{Bent: true}))
	for _, w := range places() {
		b := "some bytes"
		want(t, with(parcel(b), parcel(b)), act(api.ActBend, 3, 4, 1, w), with(parcel(b), bent(string(ether.Bend([]byte(b), w)))))
	}
}

// Of two that were one, but one is bent, and each once.
func TestBendOfTwins(t *testing.T) {
	zero, turned := "\x00\x00\x00", "\x80\x00\x00"
	e := of(bag(1, 2, parcel(zero)))
	do := func(kind, n, w int, l ...api.Parcel) {
		t.Helper()
		want(t, e, act(kind, 1, 2, n, w), of(bag(1, 2, l...)))
		e, _, _, _ = ether.Do(e, act(kind, 1, 2, n, w))
	}
	do(api.ActTwice, 0, 0, parcel(zero), parcel(zero))
	do(api.ActBend, 0, 0, bent(turned), parcel(zero))
	do(api.ActTwice, 0, 0, bent(turned), parcel(zero), bent(turned))
	do(api.ActBend, 2, 0, bent(turned), parcel(zero), bent(turned))
	do(api.ActBend, 0, 24, bent(turned), parcel(zero), bent(turned))
	do(api.ActBend, 1, 24, bent(turned), bent("\x94\xab\x70"), bent(turned))
	do(api.ActBend, 1, 24, bent(turned), bent("\x94\xab\x70"), bent(turned))
}

// The N-th, modulo how many there are, from 0 on.
func TestPlaces(t *testing.T) {
	for _, c := range []struct{ n, many, want int }{
		{0, 1, 0}, {1, 1, 0}, {-1, 1, 0}, {math.MinInt, 1, 0}, {math.MaxInt, 1, 0},
		{2, 2, 0}, {3, 2, 1}, {-1, 2, 1}, {-2, 2, 0}, {-3, 2, 1}, {math.MinInt, 2, 0}, {math.MaxInt, 2, 1},
		{3, 3, 0}, {4, 3, 1}, {5, 3, 2}, {-1, 3, 2}, {-2, 3, 1}, {-3, 3, 0}, {-4, 3, 2}, {math.MinInt, 3, 1}, {math.MaxInt, 3, 1}, {1 << 32, 3, 1}, {-1 << 32, 3, 2},
		{63, 64, 63}, {64, 64, 0}, {65, 64, 1}, {-1, 64, 63}, {-64, 64, 0}, {-65, 64, 63}, {math.MinInt, 64, 0}, {math.MaxInt, 64, 63},
		{64, 63, 1}, {62, 63, 62}, {-1, 63, 62}, {math.MinInt, 63, 55}, {math.MaxInt, 63, 7},
	} {
		l := row(c.many)
		less := slices.Delete(row(c.many), c.want, c.want+1)
		wantTold(t, with(l...), act(api.ActDeliver, 3, 4, c.n, 0), with(less...), string(l[c.want].B))
		want(t, with(l...), act(api.ActDrop, 3, 4, c.n, 0), with(less...))
		turned := row(c.many)
		turned[c.want] = bent(string(ether.Bend(l[c.want].B, 9)))
		want(t, with(l...), act(api.ActBend, 3, 4, c.n, 9), with(turned...))
		if c.many < 64 {
			want(t, with(l...), act(api.ActTwice, 3, 4, c.n, 0), with(append(row(c.many), l[c.want])...))
		}
	}
}

// No such bag: nothing.
func TestNoSuchBag(t *testing.T) {
	for _, e := range []api.Ether{{}, cut(api.Ether{}, 1, 2), of(bag(2, 1, row(3)...)), three(), busy(), of(bag(1, 3, row(2)...), bag(3, 2, row(2)...))} {
		for _, p := range append(noPairs(), [2]int{3, 1}, [2]int{4, 2}, [2]int{998, 999}, [2]int{2, 3}, [2]int{5, 3}) {
			for _, kind := range []int{api.ActDeliver, api.ActDrop, api.ActTwice, api.ActBend} {
				for _, n := range []int{0, 1, -1, math.MinInt, math.MaxInt} {
					want(t, e, act(kind, p[0], p[1], n, 3), e)
				}
			}
		}
	}
}

func TestCut(t *testing.T) {
	// Both bags are gone, the others stay.
	then := cut(of(bag(3, 2, parcel("l")), bag(3, 5, parcel("r"))), 1, 2, 3, 4)
	want(t, three(), act(api.ActCut, 3, 4, 0, 0), then)
	want(t, three(), act(api.ActCut, 4, 3, 0, 0), then)
	// One bag, or none.
	then = cut(of(bag(3, 4, three().Bags[1].L...), bag(3, 5, parcel("r")), bag(4, 3, parcel("x"), parcel("y"))), 1, 2, 2, 3)
	want(t, three(), act(api.ActCut, 2, 3, 0, 0), then)
	want(t, three(), act(api.ActCut, 3, 2, 0, 0), then)
	then = three()
	then.Cuts = [][2]int{{1, 2}, {998, 999}}
	want(t, three(), act(api.ActCut, 999, 998, 0, 0), then)
	// What is cut already.
	want(t, three(), act(api.ActCut, 1, 2, 0, 0), three())
	want(t, three(), act(api.ActCut, 2, 1, 0, 0), three())
	want(t, api.Ether{}, act(api.ActCut, 1, 999, 0, 0), cut(api.Ether{}, 1, 999))
	want(t, of(bag(1, 2, row(64)...), bag(2, 1, row(64)...)), act(api.ActCut, 1, 2, 0, 0), cut(api.Ether{}, 1, 2))
	// Numbers that are none of two unlike nodes.
	for _, p := range noPairs() {
		want(t, three(), act(api.ActCut, p[0], p[1], 0, 0), three())
		want(t, busy(), act(api.ActCut, p[0], p[1], 0, 0), busy())
	}
}

// Cuts stand in order, whichever comes first.
func TestCutsInOrder(t *testing.T) {
	all := allCuts(5)
	d := dice(3)
	for range 200 {
		var e api.Ether
		var l [][2]int
		for range d.throw(12) {
			c := all[d.throw(len(all))]
			a, b := c[0], c[1]
			if d.throw(2) == 0 {
				a, b = b, a
			}
			if !slices.Contains(l, c) {
				l = append(l, c)
			}
			slices.SortFunc(l, func(x, y [2]int) int { return 10*(x[0]-y[0]) + x[1] - y[1] })
			want(t, e, act(api.ActCut, a, b, 0, 0), api.Ether{Cuts: l})
			e, _, _, _ = ether.Do(e, act(api.ActCut, a, b, 0, 0))
		}
	}
	want(t, cut(api.Ether{}, 2, 9, 9, 10), act(api.ActCut, 10, 2, 0, 0), cut(api.Ether{}, 2, 9, 2, 10, 9, 10))
}

func TestMend(t *testing.T) {
	e := cut(of(bag(5, 6, row(2)...)), 1, 2, 1, 3, 2, 3)
	want(t, e, act(api.ActMend, 1, 2, 0, 0), cut(of(bag(5, 6, row(2)...)), 1, 3, 2, 3))
	want(t, e, act(api.ActMend, 3, 1, 0, 0), cut(of(bag(5, 6, row(2)...)), 1, 2, 2, 3))
	want(t, e, act(api.ActMend, 3, 2, 0, 0), cut(of(bag(5, 6, row(2)...)), 1, 2, 1, 3))
	want(t, cut(api.Ether{}, 998, 999), act(api.ActMend, 999, 998, 0, 0), api.Ether{})
	// What is not cut, though there be bags; and numbers that are none of two nodes.
	for _, p := range append(noPairs(), [2]int{5, 6}, [2]int{6, 5}, [2]int{1, 4}, [2]int{4, 3}, [2]int{999, 998}, [2]int{2, 4}) {
		want(t, e, act(api.ActMend, p[0], p[1], 0, 0), e)
	}
	want(t, three(), act(api.ActMend, 3, 4, 1, 1), three())
	want(t, api.Ether{}, act(api.ActMend, 1, 2, 0, 0), api.Ether{})
	// What was lost does not come again, and what is put then is there.
	e, _, _, _ = ether.Do(three(), act(api.ActCut, 4, 3, 0, 0))
	e, _ = ether.Put(e, 3, 4, []byte("lost"))
	then := with()
	then.Bags = then.Bags[:2]
	want(t, e, act(api.ActMend, 3, 4, 0, 0), then)
	e, _, _, _ = ether.Do(e, act(api.ActMend, 3, 4, 0, 0))
	then.Bags = []api.Bag{bag(3, 2, parcel("l")), bag(3, 4, parcel("z")), bag(3, 5, parcel("r"))}
	wantPut(t, e, 3, 4, "z", then)
}

// All others nothing.
func TestOtherKinds(t *testing.T) {
	for _, kind := range otherKinds() {
		for _, e := range []api.Ether{{}, three(), busy(), cut(api.Ether{}, 3, 4), of(bags(1024)...)} {
			for _, p := range append(noPairs(), [2]int{3, 4}, [2]int{4, 3}, [2]int{1, 2}, [2]int{2, 1}) {
				want(t, e, act(kind, p[0], p[1], 1, 1), e)
			}
		}
	}
}

// N and W turn nothing where they have no meaning.
func TestPartsWithoutMeaning(t *testing.T) {
	for _, e := range ethers() {
		for _, kind := range kinds() {
			for _, p := range [][2]int{{1, 2}, {2, 1}, {3, 4}, {7, 5}, {1, 3}, {999, 998}} {
				then, told, comes, _ := ether.Do(e, act(kind, p[0], p[1], 0, 0))
				for _, n := range []int{7, -1, math.MinInt, math.MaxInt} {
					a := act(kind, p[0], p[1], 0, n)
					if kind == api.ActCut || kind == api.ActMend {
						a.N = n
					}
					if kind == api.ActBend {
						continue
					}
					wantAll(t, e, a, then, string(told), comes)
				}
			}
		}
	}
}
