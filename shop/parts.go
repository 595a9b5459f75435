package shop

import (
	"slices"
	"strings"

	"tailrace/api"
	"tailrace/paper"
)

// find is where a key is, or would be, in documents.
func find(docs []api.Named, key string) (int, bool) {
	return slices.BinarySearchFunc(docs, key, func(n api.Named, key string) int {
		return strings.Compare(n.Key, key)
	})
}

// copyOf is documents in memory of their own.
func copyOf(docs []api.Named) []api.Named {
	var l []api.Named
	for _, n := range docs {
		l = append(l, api.Named{Key: n.Key, Doc: slices.Clone(n.Doc)})
	}
	return l
}

func sameNamed(a, b api.Named) bool { return a.Key == b.Key && paper.Same(a.Doc, b.Doc) }

func sameChange(a, b api.Change) bool {
	return a.Pos == b.Pos && a.Key == b.Key && a.Has == b.Has && paper.Same(a.Doc, b.Doc)
}
