package shop

import (
	"slices"

	"tailrace/api"
	"tailrace/paper"
)

// ask is the changes that come of what is asked, without their Pos, and the
// answer, without the last one's. What is refused, got or scanned has none.
func ask(docs []api.Named, o api.Op) ([]api.Change, api.Answer) {
	switch o.Kind {
	case api.OpGet:
		return nil, get(docs, o)
	case api.OpScan:
		return nil, scan(docs, o)
	case api.OpBatch:
		return batch(docs, o.List)
	}
	c, a := turn(docs, o)
	if a.Code != api.OK {
		return nil, a
	}
	return []api.Change{c}, a
}

// batch answers by Code alone: what stands there by then, where a comparison
// fails, may be what the batch itself has put there, and never stood.
func batch(docs []api.Named, l []api.Op) ([]api.Change, api.Answer) {
	if len(l) < 1 || len(l) > api.MaxBatch || slices.ContainsFunc(l, alone) {
		return nil, refused(api.ErrArg)
	}
	var changes []api.Change
	for _, o := range l {
		c, a := turn(docs, o)
		if a.Code != api.OK {
			return nil, refused(a.Code)
		}
		changes = append(changes, c)
		docs = Fold(docs, c)
	}
	return changes, api.Answer{}
}

// alone tells whether what is asked may not be one of a batch.
func alone(o api.Op) bool {
	return o.Kind != api.OpPut && o.Kind != api.OpDelete && o.Kind != api.OpCas
}

// turn is the one change of what turns one document, or why it is refused.
func turn(docs []api.Named, o api.Op) (api.Change, api.Answer) {
	switch o.Kind {
	case api.OpPut:
		return put(docs, o)
	case api.OpDelete:
		return remove(docs, o)
	case api.OpCas:
		return swap(docs, o)
	}
	return api.Change{}, refused(api.ErrArg)
}

func put(docs []api.Named, o api.Op) (api.Change, api.Answer) {
	if !paper.Key(o.Key) || paper.Check(o.Doc) != api.OK {
		return api.Change{}, refused(api.ErrArg)
	}
	if !Light(o.Doc) {
		return api.Change{}, refused(api.ErrLong)
	}
	if _, has := find(docs, o.Key); !has && len(docs) == api.MaxDocs {
		return api.Change{}, refused(api.ErrFull)
	}
	return api.Change{Key: o.Key, Has: true, Doc: slices.Clone(o.Doc)}, api.Answer{}
}

func remove(docs []api.Named, o api.Op) (api.Change, api.Answer) {
	if !paper.Key(o.Key) {
		return api.Change{}, refused(api.ErrArg)
	}
	if _, has := find(docs, o.Key); !has {
		return api.Change{}, refused(api.ErrNone)
	}
	return api.Change{Key: o.Key}, api.Answer{}
}

func swap(docs []api.Named, o api.Op) (api.Change, api.Answer) {
	if !paper.Key(o.Key) || paper.Check(o.Doc) != api.OK || o.Has && paper.Check(o.Want) != api.OK {
		return api.Change{}, refused(api.ErrArg)
	}
	there := standing(docs, o.Key)
	// Without Has, Want has no meaning: what is there then is not held against it.
	if there.Has != o.Has || o.Has && !paper.Same(there.Doc, o.Want) {
		there.Code = api.ErrCas
		return api.Change{}, there
	}
	return put(docs, o)
}

func get(docs []api.Named, o api.Op) api.Answer {
	if !paper.Key(o.Key) {
		return refused(api.ErrArg)
	}
	return standing(docs, o.Key)
}

func scan(docs []api.Named, o api.Op) api.Answer {
	if len(o.Key) > api.MaxKey || len(o.To) > api.MaxKey || o.Most < 1 || o.Most > api.MaxDocs {
		return refused(api.ErrArg)
	}
	if o.To != "" {
		end, _ := find(docs, o.To)
		docs = docs[:end]
	}
	// Sought in what is left, so that a Key behind To is at its end, and none are told.
	begin, _ := find(docs, o.Key)
	docs = docs[begin:]
	return api.Answer{Docs: copyOf(docs[:min(o.Most, len(docs))])}
}

// standing is what stands at a key, as an answer tells it.
func standing(docs []api.Named, key string) api.Answer {
	at, has := find(docs, key)
	if !has {
		return api.Answer{}
	}
	return api.Answer{Has: true, Doc: slices.Clone(docs[at].Doc)}
}

func refused(e api.Errno) api.Answer { return api.Answer{Code: e} }
