package index

import (
	"cmp"
	"slices"
	"strings"

	"tailrace/api"
	"tailrace/expr"
	"tailrace/paper"
	"tailrace/rank"
)

// compare orders entries by Key, then Val.
func compare(a, b api.Pair) int {
	return cmp.Or(strings.Compare(a.Key, b.Key), strings.Compare(a.Val, b.Val))
}

// entry is a document's pair, if it has all values.
func entry(nodes []api.Node, key string, d api.Doc) (api.Pair, bool) {
	values, has := expr.EvalAll(nodes, d)
	if !has {
		return api.Pair{}, false
	}
	of, e := rank.Key(values)
	return api.Pair{Key: of, Val: key}, e == api.OK
}

// mayBe tells whether a change is of a key, and of a document that may be;
// the Doc of one that is gone is not looked at.
func mayBe(c api.Change) bool {
	return paper.Key(c.Key) && (!c.Has || paper.Check(c.Doc) == api.OK)
}

// without is entries but those of a document, in memory of their own.
func without(entries []api.Pair, key string) []api.Pair {
	var left []api.Pair
	for _, p := range entries {
		if p.Val != key {
			left = append(left, p)
		}
	}
	return left
}

// first is where the first entry is whose Key is this one or behind it.
func first(entries []api.Pair, key string) int {
	at, _ := slices.BinarySearchFunc(entries, key, func(p api.Pair, key string) int {
		return strings.Compare(p.Key, key)
	})
	return at
}
