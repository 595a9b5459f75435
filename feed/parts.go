package feed

import (
	"slices"
	"strings"

	"tailrace/api"
	"tailrace/paper"
)

// follow tells whether changes may stand behind so many.
func follow(l []api.Change, total int) bool {
	for i, c := range l {
		if c.Pos != total+1+i || !paper.Key(c.Key) || paper.Check(c.Doc) != api.OK {
			return false
		}
		if !c.Has && len(c.Doc) > 0 {
			return false
		}
	}
	return true
}

// subscribe tells whether a feed's subscriptions may be.
func subscribe(f api.Feed) bool {
	if len(f.Subs) > api.MaxSubs {
		return false
	}
	for i, s := range f.Subs {
		if !paper.Key(s.Name) || s.Pos < f.Base || s.Pos > f.Total {
			return false
		}
		if i > 0 && f.Subs[i-1].Name >= s.Name {
			return false
		}
	}
	return true
}

// find is where a name is, or would be, in subscriptions.
func find(l []api.Sub, name string) (int, bool) {
	return slices.BinarySearchFunc(l, name, func(s api.Sub, name string) int {
		return strings.Compare(s.Name, name)
	})
}

// atOnce tells whether so many changes may be told at once.
func atOnce(most int) bool { return 1 <= most && most <= api.MaxNews }

// behind is a feed's first changes behind a place, which is not below Base.
func behind(f api.Feed, pos, most int) []api.Change {
	l := f.Changes[pos-f.Base:]
	return copyNews(l[:min(most, len(l))])
}

// copyOf is a feed in memory of its own.
func copyOf(f api.Feed) api.Feed {
	f.Changes = copyNews(f.Changes)
	f.Subs = slices.Clone(f.Subs)
	return f
}

// copyNews is changes in memory of their own.
func copyNews(l []api.Change) []api.Change {
	var out []api.Change
	for _, c := range l {
		c.Doc = slices.Clone(c.Doc)
		out = append(out, c)
	}
	return out
}

func sameChange(a, b api.Change) bool {
	return a.Pos == b.Pos && a.Key == b.Key && a.Has == b.Has && paper.Same(a.Doc, b.Doc)
}
