package wire

import (
	"bytes"
	"slices"

	"tailrace/api"
	"tailrace/paper"
)

func sameNamed(a, b api.Named) bool { return a.Key == b.Key && paper.Same(a.Doc, b.Doc) }

func sameChange(a, b api.Change) bool {
	return a.Pos == b.Pos && a.Key == b.Key && a.Has == b.Has && paper.Same(a.Doc, b.Doc)
}

func sameRequest(a, b api.Request) bool {
	return a.Client == b.Client && a.Id == b.Id && sameOp(a.Op, b.Op)
}

func sameAnswer(a, b api.Answer) bool {
	return a.Code == b.Code && a.Has == b.Has && a.N == b.N && a.Total == b.Total &&
		paper.Same(a.Doc, b.Doc) &&
		slices.EqualFunc(a.Docs, b.Docs, sameNamed) &&
		slices.EqualFunc(a.News, b.News, sameChange) &&
		slices.Equal(a.Keys, b.Keys)
}

func sameChain(a, b api.Chain) bool {
	return a.Id == b.Id && a.Def == b.Def && a.Epoch == b.Epoch && a.Joiner == b.Joiner &&
		slices.Equal(a.Members, b.Members)
}

func sameConf(a, b api.Conf) bool {
	return a.Rev == b.Rev && a.Ever == b.Ever && slices.EqualFunc(a.Chains, b.Chains, sameChain)
}

func sameCmd(a, b api.Cmd) bool {
	return a.Kind == b.Kind && a.Chain == b.Chain && a.Epoch == b.Epoch && a.Node == b.Node &&
		a.Def == b.Def && slices.Equal(a.Nodes, b.Nodes)
}

func sameLog(a, b api.Log) bool { return a.Term == b.Term && bytes.Equal(a.Cmd, b.Cmd) }

// pair is two lists of asks that must be alike.
type pair struct{ a, b []api.Op }

// place is where a pair lies in memory. Lists that share their memory, or lie
// within themselves, are told by it, so that nobody goes round for ever; what
// is answered does not hang on it.
type place struct {
	a, b *api.Op
	n    int
}

// sameOp goes from pair to pair, and calls itself nowhere: asks that may not be
// may lie in each other deeper than a stack.
func sameOp(a, b api.Op) bool {
	left := []pair{{[]api.Op{a}, []api.Op{b}}}
	seen := map[place]int{}
	for len(left) > 0 {
		last := len(left) - 1
		p := left[last]
		left = left[:last]
		if !slices.EqualFunc(p.a, p.b, sameButWithin) {
			return false
		}
		left = append(left, within(p, seen)...)
	}
	return true
}

// sameButWithin tells whether asks are alike, but for what is in their Lists.
func sameButWithin(a, b api.Op) bool {
	return a.Kind == b.Kind && a.Key == b.Key && a.To == b.To && a.Has == b.Has && a.N == b.N && a.Most == b.Most &&
		paper.Same(a.Doc, b.Doc) &&
		paper.Same(a.Want, b.Want) &&
		len(a.List) == len(b.List) &&
		slices.EqualFunc(a.Docs, b.Docs, sameNamed) &&
		slices.EqualFunc(a.News, b.News, sameChange)
}

// within is the pairs of Lists in a pair, as long as each other, that were not
// seen yet.
func within(p pair, seen map[place]int) []pair {
	var out []pair
	for i := range p.a {
		a, b := p.a[i].List, p.b[i].List
		if len(a) == 0 {
			continue
		}
		at := place{&a[0], &b[0], len(a)}
		if _, ok := seen[at]; !ok {
			seen[at] = len(seen)
			out = append(out, pair{a, b})
		}
	}
	return out
}
