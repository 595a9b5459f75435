package depot

import (
	"slices"

	"tailrace/api"
	"tailrace/feed"
	"tailrace/shop"
)

// lastTotal is how many changes there may be for one more to be asked for.
const lastTotal = api.MaxCount - 8

// once turns a depot as a client asks it to, if that was not asked before.
func once(d *api.Depot, q api.Request) api.Answer {
	if !count(q.Client) || !count(q.Id) {
		return refused(api.ErrArg)
	}
	at, has := find(d.Last, q.Client)
	switch {
	case has && d.Last[at].Id == q.Id:
		return copyAnswer(d.Last[at].Answer)
	case has && d.Last[at].Id > q.Id:
		return refused(api.ErrOld)
	case !has && len(d.Last) == api.MaxLast:
		return refused(api.ErrFull)
	}
	if !has {
		d.Last = slices.Insert(d.Last, at, api.Last{Client: q.Client})
	}
	a := turn(d, q.Op)
	// What is refused is remembered too: asked again, it might be done by then.
	d.Last[at].Id, d.Last[at].Answer = q.Id, copyAnswer(a)
	return a
}

// turn turns a depot, of memory of its own, as a turning one asks it to.
func turn(d *api.Depot, o api.Op) api.Answer {
	var e api.Errno
	switch o.Kind {
	case api.OpOpen:
		d.Feed, e = feed.Open(d.Feed, o.Key, o.N)
	case api.OpAck:
		d.Feed, e = feed.Ack(d.Feed, o.Key, o.N)
	case api.OpClose:
		d.Feed, e = feed.Close(d.Feed, o.Key)
	case api.OpTrim:
		d.Feed, e = feed.Trim(d.Feed, o.N)
	default:
		return write(d, o)
	}
	return api.Answer{Code: e}
}

// write turns documents, and lets the changes follow in the feed.
func write(d *api.Depot, o api.Op) api.Answer {
	if d.Feed.Total > lastTotal {
		return refused(api.ErrFull)
	}
	// Of a depot that may be, with so much room, neither layer refuses what it is handed.
	docs, a, changes, _ := shop.Apply(d.Docs, o, d.Feed.Total)
	d.Docs = docs
	d.Feed, _ = feed.Add(d.Feed, changes)
	return a
}

// read is what is told of a depot, as it is.
func read(d api.Depot, o api.Op) api.Answer {
	switch o.Kind {
	case api.OpGet, api.OpScan:
		// They make no change, so they are told of a feed without room, too: from 0 on there is some.
		_, a, _, _ := shop.Apply(d.Docs, o, 0)
		return a
	case api.OpRead:
		l, at, e := feed.Read(d.Feed, o.Key, o.Most)
		return news(e, l, at, d.Feed.Total)
	case api.OpPull:
		l, e := feed.Pull(d.Feed, o.N, o.Most)
		return news(e, l, 0, d.Feed.Total)
	case api.OpSnap:
		return api.Answer{Docs: each(d.Docs, copyNamed), N: d.Feed.Total}
	}
	return refused(api.ErrArg)
}

// news is the answer to who reads changes; what is refused is told by Code alone.
func news(e api.Errno, l []api.Change, at, total int) api.Answer {
	if e != api.OK {
		return refused(e)
	}
	return api.Answer{News: l, N: at, Total: total}
}

func refused(e api.Errno) api.Answer { return api.Answer{Code: e} }
