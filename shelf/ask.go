package shelf

import (
	"tailrace/api"
	"tailrace/index"
	"tailrace/paper"
)

// mostFound is how many entries are told at once.
const mostFound = 24

// ask turns a shelf, of memory of its own, as it is asked to, or tells of it.
func ask(s *api.Shelf, o api.Op) api.Answer {
	switch o.Kind {
	case api.OpLoad:
		return api.Answer{Code: load(s, o)}
	case api.OpFeed:
		return api.Answer{Code: feed(s, o)}
	case api.OpReady:
		s.Ready = true
		return api.Answer{}
	case api.OpFind:
		return find(*s, o)
	}
	return api.Answer{Code: api.ErrArg}
}

// load builds the entries of documents as they are behind N changes.
func load(s *api.Shelf, o api.Op) api.Errno {
	if !count(o.N) {
		return api.ErrArg
	}
	entries, e := index.Build(s.Def, o.Docs)
	if e != api.OK {
		return e
	}
	if o.N < s.Mark {
		return api.ErrOld
	}
	s.Entries, s.Mark = entries, o.N
	return api.OK
}

// feed updates the entries by the changes behind N.
func feed(s *api.Shelf, o api.Op) api.Errno {
	switch {
	case !news(o.News, o.N):
		return api.ErrArg
	case o.N != s.Mark:
		return api.ErrOld
	case len(o.News) > api.MaxCount-s.Mark:
		return api.ErrFull
	}
	for _, c := range o.News {
		// Of a shelf and changes that may be it refuses nothing.
		s.Entries, _ = index.Update(s.Def, s.Entries, c)
		s.Mark = c.Pos
	}
	return api.OK
}

// find is what is told of a shelf that is ready, and far enough.
func find(s api.Shelf, o api.Op) api.Answer {
	if o.Most < 1 || o.Most > mostFound {
		return api.Answer{Code: api.ErrArg}
	}
	if !s.Ready || s.Mark < o.N {
		return api.Answer{Code: api.ErrWait}
	}
	// Of a shelf that may be, and so many, it refuses nothing.
	keys, _ := index.Find(s.Entries, o.Key, o.To, o.Most)
	return api.Answer{Keys: keys, N: s.Mark}
}

// news tells whether changes may be fed: few enough, each one behind the last, from n on.
func news(l []api.Change, n int) bool {
	if len(l) > api.MaxNews {
		return false
	}
	for _, c := range l {
		// Held against each other first, so that one less is never below the least number.
		if c.Pos <= n || c.Pos-1 != n || !mayBe(c) {
			return false
		}
		n = c.Pos
	}
	return true
}

// mayBe tells whether a change is of a key, and of a document that may be; the Doc of one that is gone is not looked at.
func mayBe(c api.Change) bool {
	return paper.Key(c.Key) && (!c.Has || paper.Check(c.Doc) == api.OK)
}

// count tells whether there may be so many changes.
func count(n int) bool { return 0 <= n && n <= api.MaxCount }
