package wire

import (
	"tailrace/api"
	"tailrace/cell"
	"tailrace/paper"
)

// leastCell is how many bytes a cell has at least: its kind, and a count.
const leastCell = 2

// writer makes the cells of parts, and remembers whether one may not be.
type writer struct {
	doc  func(api.Doc) (api.Cell, api.Errno) // how a document is written
	room int                                 // bytes that a record has left, if what was written took the fewest
	bad  bool
}

// record is the bytes of what is written, if it may be.
func record[T any](part T, write func(*writer, T) api.Cell) ([]byte, api.Errno) {
	w := writer{doc: paper.Cell, room: api.MaxRecord}
	c := write(&w, part)
	if w.bad {
		return nil, api.ErrArg
	}
	b, e := cell.Encode(c)
	if e != api.OK || len(b) > api.MaxRecord {
		return nil, api.ErrArg
	}
	return b, api.OK
}

// must remembers what a part must be, to be one that may be.
func (w *writer) must(ok bool) { w.bad = w.bad || !ok }

// take tells whether there is room for so many bytes more. Without it nobody
// writes on: a few lists, each of them many times in another one, may be more
// than anybody can write.
func (w *writer) take(n int) bool {
	w.room -= n
	w.must(w.room >= 0)
	return !w.bad
}

// list is the list of any parts' cells.
func list[T any](w *writer, l []T, one func(T) api.Cell) api.Cell {
	if !w.take(leastCell * len(l)) {
		return api.Cell{}
	}
	cells := make([]api.Cell, len(l))
	for i, part := range l {
		cells[i] = one(part)
	}
	return parts(cells...)
}

// parts is the list of cells that nobody else has, so that they need not be
// copied, as cell.List does.
func parts(l ...api.Cell) api.Cell { return api.Cell{Kind: api.CellList, List: l} }

func truth(yes bool) api.Cell {
	if yes {
		return cell.Num(1)
	}
	return cell.Num(0)
}

func (w *writer) bytes(b []byte) api.Cell {
	if !w.take(len(b)) {
		return api.Cell{}
	}
	return cell.Text(string(b))
}

func (w *writer) document(d api.Doc) api.Cell {
	c, e := w.doc(d)
	w.must(e == api.OK)
	return c
}

func (w *writer) named(n api.Named) api.Cell {
	return parts(cell.Text(n.Key), w.document(n.Doc))
}

func (w *writer) change(c api.Change) api.Cell {
	return parts(cell.Num(c.Pos), cell.Text(c.Key), truth(c.Has), w.document(c.Doc))
}

func (w *writer) pair(p api.Pair) api.Cell { return parts(cell.Text(p.Key), cell.Text(p.Val)) }

func (w *writer) op(o api.Op) api.Cell { return w.opWith(o, w.inner) }

// inner is one of another one's List, which has no List of its own.
func (w *writer) inner(o api.Op) api.Cell { return w.opWith(o, w.none) }

func (w *writer) none(api.Op) api.Cell {
	w.must(false)
	return api.Cell{}
}

// opWith is handed what writes one of the List.
func (w *writer) opWith(o api.Op, one func(api.Op) api.Cell) api.Cell {
	return parts(
		cell.Num(o.Kind), cell.Text(o.Key), cell.Text(o.To), w.document(o.Doc), w.document(o.Want),
		truth(o.Has), cell.Num(o.N), cell.Num(o.Most),
		list(w, o.List, one), list(w, o.Docs, w.named), list(w, o.News, w.change),
	)
}

func (w *writer) request(q api.Request) api.Cell {
	return parts(cell.Num(q.Client), cell.Num(q.Id), w.op(q.Op))
}

func (w *writer) answer(a api.Answer) api.Cell {
	return parts(
		cell.Num(int(a.Code)), truth(a.Has), w.document(a.Doc), list(w, a.Docs, w.named), list(w, a.News, w.change),
		cell.Num(a.N), cell.Num(a.Total), list(w, a.Keys, w.pair),
	)
}

func (w *writer) chain(c api.Chain) api.Cell {
	return parts(cell.Num(c.Id), cell.Text(c.Def), cell.Num(c.Epoch), list(w, c.Members, cell.Num), cell.Num(c.Joiner))
}

func (w *writer) conf(c api.Conf) api.Cell {
	return parts(cell.Num(c.Rev), cell.Num(c.Ever), list(w, c.Chains, w.chain))
}

func (w *writer) cmd(c api.Cmd) api.Cell {
	return parts(
		cell.Num(c.Kind), cell.Num(c.Chain), cell.Num(c.Epoch), cell.Num(c.Node), cell.Text(c.Def),
		list(w, c.Nodes, cell.Num),
	)
}

func (w *writer) log(l api.Log) api.Cell { return parts(cell.Num(l.Term), w.bytes(l.Cmd)) }

func (w *writer) msg(m api.Msg) api.Cell {
	w.must(known(m.Kind) && Same(unwritten(m), api.Msg{}))
	ahead := []api.Cell{
		cell.Num(m.Kind), cell.Num(m.Chain), cell.Num(m.Epoch), cell.Num(m.At), cell.Num(m.Len),
		cell.Num(m.Commit), cell.Num(m.Term), cell.Num(m.Last), truth(m.Yes),
		list(w, m.Entries, w.bytes), list(w, m.Logs, w.log),
	}
	return parts(append(ahead, w.behind(m)...)...)
}

// behind is what a message of its kind has behind what all have.
func (w *writer) behind(m api.Msg) []api.Cell {
	switch m.Kind {
	case api.MsgConf:
		return []api.Cell{w.conf(m.Conf)}
	case api.MsgWant:
		return []api.Cell{w.cmd(m.Cmd)}
	case api.MsgAsk:
		return []api.Cell{w.request(m.Request)}
	case api.MsgTell:
		return []api.Cell{w.request(m.Request), w.answer(m.Answer)}
	}
	return nil
}

// unwritten is what of a message is not written; it must be nothing.
func unwritten(m api.Msg) api.Msg {
	left := api.Msg{Conf: m.Conf, Cmd: m.Cmd, Request: m.Request, Answer: m.Answer}
	switch m.Kind {
	case api.MsgConf:
		left.Conf = api.Conf{}
	case api.MsgWant:
		left.Cmd = api.Cmd{}
	case api.MsgAsk:
		left.Request = api.Request{}
	case api.MsgTell:
		left.Request, left.Answer = api.Request{}, api.Answer{}
	}
	return left
}

func known(kind int) bool { return 1 <= kind && kind < api.MsgKinds }
