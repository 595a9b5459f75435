package ether

import (
	"bytes"
	"cmp"
	"slices"

	"tailrace/api"
)

// maxNode is the greatest number of a node.
const maxNode = 999

// twoNodes tells whether numbers are those of two unlike nodes.
func twoNodes(a, b int) bool {
	return min(a, b) >= 1 && max(a, b) <= maxNode && a != b
}

// modulo is a number modulo n, from 0 on.
func modulo(i, n int) int { return (i%n + n) % n }

// cutsMayBe tells whether an ether may have these cuts.
func cutsMayBe(l [][2]int) bool {
	for i, c := range l {
		if !twoNodes(c[0], c[1]) || c[0] > c[1] {
			return false
		}
		if i > 0 && compareCuts(l[i-1], c) >= 0 {
			return false
		}
	}
	return true
}

// bagsMayBe tells whether an ether may have these bags, wherever it is cut.
func bagsMayBe(l []api.Bag) bool {
	if len(l) > api.MaxBags {
		return false
	}
	for i, b := range l {
		if !twoNodes(b.From, b.To) || len(b.L) < 1 || len(b.L) > api.MaxBag {
			return false
		}
		if i > 0 && compareBags(l[i-1], b) >= 0 {
			return false
		}
	}
	return true
}

func compareCuts(x, y [2]int) int { return slices.Compare(x[:], y[:]) }

func compareBags(x, y api.Bag) int {
	return cmp.Or(cmp.Compare(x.From, y.From), cmp.Compare(x.To, y.To))
}

// between is the cut of two nodes, whichever is named first.
func between(a, b int) [2]int { return [2]int{min(a, b), max(a, b)} }

// findCut is where the cut of two nodes is, or would be.
func findCut(l [][2]int, a, b int) (int, bool) {
	return slices.BinarySearchFunc(l, between(a, b), compareCuts)
}

// findBag is where the bag from a node to another one is, or would be.
func findBag(l []api.Bag, from, to int) (int, bool) {
	return slices.BinarySearchFunc(l, api.Bag{From: from, To: to}, compareBags)
}

// add lets a parcel be a bag's last one, if there is room.
func add(b *api.Bag, p api.Parcel) {
	if len(b.L) < api.MaxBag {
		b.L = append(b.L, p)
	}
}

// take takes a parcel out of a bag, and a bag that has none out of the ether.
func take(e *api.Ether, at, n int) []byte {
	bag := &e.Bags[at]
	b := bag.L[n].B
	bag.L = slices.Delete(bag.L, n, n+1)
	if len(bag.L) == 0 {
		e.Bags = slices.Delete(e.Bags, at, at+1)
	}
	return b
}

// bendOnce bends a parcel that was not bent: what a seal surely tells is one
// bending, not two.
func bendOnce(p *api.Parcel, w int) {
	if !p.Bent {
		*p = api.Parcel{B: Bend(p.B, w), Bent: true}
	}
}

// cut lets nothing go between two nodes, nor come that is on its way.
func cut(e *api.Ether, a, b int) {
	if !twoNodes(a, b) {
		return
	}
	e.Bags = slices.DeleteFunc(e.Bags, func(g api.Bag) bool {
		return between(g.From, g.To) == between(a, b)
	})
	at, has := findCut(e.Cuts, a, b)
	if !has {
		e.Cuts = slices.Insert(e.Cuts, at, between(a, b))
	}
}

// mend lets all go between two nodes again.
func mend(e *api.Ether, a, b int) {
	at, has := findCut(e.Cuts, a, b)
	if has {
		e.Cuts = slices.Delete(e.Cuts, at, at+1)
	}
}

// copyOf is an ether in memory of its own.
func copyOf(e api.Ether) api.Ether {
	out := api.Ether{Cuts: slices.Clone(e.Cuts)}
	for _, b := range e.Bags {
		g := api.Bag{From: b.From, To: b.To}
		for _, p := range b.L {
			g.L = append(g.L, copyOfParcel(p))
		}
		out.Bags = append(out.Bags, g)
	}
	return out
}

func copyOfParcel(p api.Parcel) api.Parcel {
	return api.Parcel{B: slices.Clone(p.B), Bent: p.Bent}
}

func sameBag(x, y api.Bag) bool {
	return x.From == y.From && x.To == y.To && slices.EqualFunc(x.L, y.L, sameParcel)
}

func sameParcel(x, y api.Parcel) bool {
	return x.Bent == y.Bent && bytes.Equal(x.B, y.B)
}
