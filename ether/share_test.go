package ether_test

import (
	"fmt"
	"math"
	"slices"
	"testing"

	"tailrace/api"
	"tailrace/ether"
)

// R3

// owner has which memory is whose.
type owner struct {
	t     *testing.T
	taken map[any]string
}

func newOwner(t *testing.T) *owner { return &owner{t, map[any]string{}} }

// whole takes all elements of a list, and the room behind its end.
func whole[T any](o *owner, name string, l []T) []T {
	l = l[:cap(l)]
	for i := range l {
		if other, ok := o.taken[&l[i]]; ok {
			o.t.Errorf("%s and %s share memory", name, other)
		}
		o.taken[&l[i]] = name
	}
	return l
}

// ether takes all that is in an ether, and tells of it.
func (o *owner) ether(name string, e api.Ether) string {
	told := fmt.Sprint(len(e.Bags), len(e.Cuts), whole(o, name+"'s cuts", e.Cuts))
	for _, b := range whole(o, name+"'s bags", e.Bags) {
		told += fmt.Sprint("; ", b.From, b.To, len(b.L))
		for _, p := range whole(o, name+"'s parcels", b.L) {
			told += fmt.Sprintf(", %q %d %t", whole(o, name+"'s bytes", p.B), len(p.B), p.Bent)
		}
	}
	return told
}

// behind is a list with things behind its end.
func behind[T any](l []T, things ...T) []T {
	return slices.Concat(l, things)[:len(l)]
}

// roomy is an ether in which something stands behind each list's end.
func roomy(e api.Ether) api.Ether {
	out := api.Ether{Cuts: behind(e.Cuts, [2]int{4, 3}, [2]int{-1, 7})}
	out.Bags = behind(e.Bags, bag(1, 1, parcel("behind")), bag(0, 0), bag(998, 1, row(2)...))[:len(e.Bags)+3]
	for i, b := range out.Bags {
		l := behind(b.L, bent("behind a bag"), parcel("too"))[:len(b.L)+2]
		for j, p := range l {
			l[j] = api.Parcel{B: behind(p.B, 7, 8, 9), Bent: p.Bent}
		}
		out.Bags[i].L = l[:len(b.L)]
	}
	out.Bags = out.Bags[:len(e.Bags)]
	return out
}

func (o *owner) is(name string, e api.Ether, was string) {
	o.t.Helper()
	if now := newOwner(o.t).ether(name, e); now != was {
		o.t.Errorf("%s is turned: %s; was %s", name, now, was)
	}
}

func TestNothingIsShared(t *testing.T) {
	for _, e := range ethers() {
		if len(e.Bags) > 100 {
			continue
		}
		for _, p := range [][2]int{{1, 2}, {2, 1}, {3, 4}, {4, 3}, {1, 999}, {999, 1}, {7, 5}, {999, 998}, {1, 3}, {1, 7}, {1, 1}} {
			x := roomy(e)
			own := newOwner(t)
			was := own.ether("the ether", x)
			b := behind([]byte("bytes"), 1, 2)
			whole(own, "the bytes", b)
			then, _ := ether.Put(x, p[0], p[1], b)
			own.ether("the ether then", then)
			own.is("the ether", x, was)
			if string(b[:7]) != "bytes\x01\x02" {
				t.Errorf("Put turns the bytes: %q", b[:7])
			}
			for _, kind := range append(kinds(), 0, api.ActTick) {
				for _, n := range []int{0, 1, -1, math.MinInt} {
					then, told, _, _ := ether.Do(x, act(kind, p[0], p[1], n, n+3))
					own.ether("the ether behind an act", then)
					whole(own, "what is told", told)
					own.is("the ether", x, was)
				}
			}
			ether.Check(x)
			ether.Count(x)
			ether.Same(x, roomy(e))
			own.is("the ether", x, was)
		}
	}
}

// What is refused is left as it is, too.
func TestNoEtherIsLeft(t *testing.T) {
	for _, e := range noEthers() {
		if len(e.Bags) > 100 {
			continue
		}
		x := roomy(e)
		own := newOwner(t)
		was := own.ether("it", x)
		ether.Check(x)
		ether.Count(x)
		ether.Put(x, 1, 2, []byte("b"))
		for _, kind := range kinds() {
			ether.Do(x, act(kind, 1, 2, 0, 0))
		}
		ether.Same(x, roomy(e))
		own.is("it", x, was)
	}
}

// Bytes that are in more than one place are in no two of what comes of it.
func TestBytesInMoreThanOnePlace(t *testing.T) {
	b := []byte("one and the same")
	l := []api.Parcel{{B: b}, {B: b[:9]}, {B: b, Bent: true}}
	e := of(bag(1, 2, l...), bag(2, 1, l...), bag(2, 3, l[:2]...))
	e.Bags[1].L, e.Bags[0].L = l, l
	was := fmt.Sprint(e)
	for _, kind := range append(kinds(), 0) {
		for n := range 3 {
			for _, p := range [][2]int{{1, 2}, {2, 1}, {2, 3}, {3, 2}, {5, 6}} {
				own := newOwner(t)
				whole(own, "the bytes", b)
				whole(own, "the bag", l)
				then, told, _, _ := ether.Do(e, act(kind, p[0], p[1], n, 0))
				own.ether("the ether then", then)
				whole(own, "what is told", told)
				then, _ = ether.Put(e, p[0], p[1], b)
				own.ether("the ether behind Put", then)
				if fmt.Sprint(e) != was {
					t.Fatalf("act %d turns it: %v", kind, e)
				}
			}
		}
	}
}

// What is told, and what was handed in, may be written to: the ether stays.
func TestWhatIsToldIsOnesOwn(t *testing.T) {
	b := []byte("abc")
	e, _ := ether.Put(api.Ether{}, 1, 2, b)
	b[0] = 'x'
	if !same(e, of(bag(1, 2, parcel("abc")))) {
		t.Errorf("Put keeps what is handed in: %+v", e)
	}
	then, _, _, _ := ether.Do(e, act(api.ActTwice, 1, 2, 0, 0))
	then.Bags[0].L[0].B[0] = 'y'
	if !same(then, of(bag(1, 2, parcel("ybc"), parcel("abc")))) || !same(e, of(bag(1, 2, parcel("abc")))) {
		t.Errorf("ActTwice shares: %+v, %+v", e, then)
	}
	_, told, _, _ := ether.Do(e, act(api.ActDeliver, 1, 2, 0, 0))
	told[0] = 'z'
	if !same(e, of(bag(1, 2, parcel("abc")))) {
		t.Errorf("ActDeliver shares: %+v", e)
	}
}

func TestBendShares(t *testing.T) {
	for _, s := range []string{"", "a", "abcdefgh"} {
		for _, w := range []int{0, 1, -1, -2, 12345} {
			b := behind([]byte(s), 5, 6, 7)
			own := newOwner(t)
			whole(own, "the bytes", b)
			whole(own, "what is bent", ether.Bend(b, w))
			whole(own, "what is bent again", ether.Bend(b, w))
			if string(b[:cap(b)])[:len(s)+3] != s+"\x05\x06\x07" {
				t.Errorf("Bend(%q, %d) turns what is handed in", s, w)
			}
		}
	}
}

// R3: an ether of empty lists is one of none.
func TestEmptyLists(t *testing.T) {
	empty := api.Ether{Bags: []api.Bag{}, Cuts: [][2]int{}}
	wantPut(t, empty, 1, 2, "x", of(bag(1, 2, parcel("x"))))
	want(t, empty, act(api.ActCut, 1, 2, 0, 0), cut(api.Ether{}, 1, 2))
	want(t, of(bag(1, 2, api.Parcel{B: []byte{}}, parcel("x"))), act(api.ActTwice, 1, 2, 0, 0), of(bag(1, 2, api.Parcel{}, parcel("x"), api.Parcel{})))
	if code := ether.Check(of(api.Bag{From: 1, To: 2, L: []api.Parcel{}})); code != api.ErrArg {
		t.Errorf("an empty bag: error %d", code)
	}
}
