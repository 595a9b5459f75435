package sheaf

import (
	"slices"
	"strings"

	"tailrace/api"
)

// find is where a key is, or would be, in a sheaf.
func find(l []api.Pair, key string) (int, bool) {
	return slices.BinarySearchFunc(l, key, func(p api.Pair, key string) int {
		return strings.Compare(p.Key, key)
	})
}

// split is a sheaf's pairs ahead of a key and those behind it, as pieces of
// the sheaf's own memory: whoever hands them out copies them.
func split(l []api.Pair, key string) (ahead, behind []api.Pair) {
	at, has := find(l, key)
	if has {
		return l[:at], l[at+1:]
	}
	return l[:at], l[at:]
}
