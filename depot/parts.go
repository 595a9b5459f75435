package depot

import (
	"cmp"
	"slices"

	"tailrace/api"
	"tailrace/shop"
)

// remember tells whether what clients asked last may be.
func remember(l []api.Last) bool {
	if len(l) > api.MaxLast {
		return false
	}
	for i, a := range l {
		if !count(a.Client) || !count(a.Id) {
			return false
		}
		if i > 0 && l[i-1].Client >= a.Client {
			return false
		}
	}
	return true
}

// count tells whether a number may be a client's, or a request's.
func count(n int) bool { return 1 <= n && n <= api.MaxCount }

// find is where a client is, or would be, among those that are remembered.
func find(l []api.Last, client int) (int, bool) {
	return slices.BinarySearchFunc(l, client, func(a api.Last, client int) int {
		return cmp.Compare(a.Client, client)
	})
}

// copyOf is a depot in memory of its own.
func copyOf(d api.Depot) api.Depot {
	d.Docs = each(d.Docs, copyNamed)
	d.Feed.Changes = each(d.Feed.Changes, copyChange)
	d.Feed.Subs = slices.Clone(d.Feed.Subs)
	d.Last = each(d.Last, copyLast)
	return d
}

// copyAnswer is an answer in memory of its own.
func copyAnswer(a api.Answer) api.Answer {
	a.Doc = slices.Clone(a.Doc)
	a.Docs = each(a.Docs, copyNamed)
	a.News = each(a.News, copyChange)
	a.Keys = slices.Clone(a.Keys)
	return a
}

// each is a list of copies of another one's.
func each[T any](l []T, copied func(T) T) []T {
	var out []T
	for _, one := range l {
		out = append(out, copied(one))
	}
	return out
}

func copyNamed(n api.Named) api.Named {
	n.Doc = slices.Clone(n.Doc)
	return n
}

func copyChange(c api.Change) api.Change {
	c.Doc = slices.Clone(c.Doc)
	return c
}

func copyLast(l api.Last) api.Last {
	l.Answer = copyAnswer(l.Answer)
	return l
}

func sameLast(a, b api.Last) bool {
	return a.Client == b.Client && a.Id == b.Id && shop.Same(a.Answer, b.Answer)
}
