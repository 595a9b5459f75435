package wire

import (
	"tailrace/api"
	"tailrace/cell"
	"tailrace/paper"
)

// headParts is how many parts all messages have.
const headParts = 11

// reader makes parts of their cells, and remembers whether a cell is none's. It
// reads on then: what it answers is not told.
type reader struct {
	doc func(api.Cell) (api.Doc, api.Errno) // how a document is read
	bad bool
}

// recordOf is what is read of bytes, if they are those of one that may be.
func recordOf[T any](b []byte, read func(*reader, api.Cell) T) (T, api.Errno) {
	var none T
	if len(b) > api.MaxRecord {
		return none, api.ErrText
	}
	c, e := cell.Decode(b)
	if e != api.OK {
		return none, api.ErrText
	}
	r := reader{doc: paper.Of}
	part := read(&r, c)
	if r.bad {
		return none, api.ErrText
	}
	return part, api.OK
}

// must remembers what a cell must be, to be one of what is read.
func (r *reader) must(ok bool) { r.bad = r.bad || !ok }

// listOf is the list of any parts of a cell.
func listOf[T any](r *reader, c api.Cell, one func(*reader, api.Cell) T) []T {
	r.must(c.Kind == api.CellList)
	var l []T
	for _, d := range c.List {
		l = append(l, one(r, d))
	}
	return l
}

// parts is the cells of a list of so many; where it is another one, of none.
func (r *reader) parts(c api.Cell, n int) []api.Cell {
	if c.Kind != api.CellList || len(c.List) != n {
		r.must(false)
		return make([]api.Cell, n)
	}
	return c.List
}

func (r *reader) num(c api.Cell) int {
	r.must(c.Kind == api.CellNum)
	return c.Num
}

func (r *reader) truth(c api.Cell) bool {
	n := r.num(c)
	r.must(n == 0 || n == 1)
	return n == 1
}

func (r *reader) text(c api.Cell) string {
	r.must(c.Kind == api.CellText)
	return c.Text
}

func (r *reader) bytes(c api.Cell) []byte { return []byte(r.text(c)) }

func (r *reader) document(c api.Cell) api.Doc {
	d, e := r.doc(c)
	r.must(e == api.OK)
	return d
}

func (r *reader) named(c api.Cell) api.Named {
	p := r.parts(c, 2)
	return api.Named{Key: r.text(p[0]), Doc: r.document(p[1])}
}

func (r *reader) change(c api.Cell) api.Change {
	p := r.parts(c, 4)
	return api.Change{Pos: r.num(p[0]), Key: r.text(p[1]), Has: r.truth(p[2]), Doc: r.document(p[3])}
}

func (r *reader) pair(c api.Cell) api.Pair {
	p := r.parts(c, 2)
	return api.Pair{Key: r.text(p[0]), Val: r.text(p[1])}
}

func (r *reader) op(c api.Cell) api.Op { return r.opWith(c, (*reader).inner) }

// inner is one of another one's List, which has no List of its own.
func (r *reader) inner(c api.Cell) api.Op { return r.opWith(c, (*reader).none) }

func (r *reader) none(api.Cell) api.Op {
	r.must(false)
	return api.Op{}
}

// opWith is handed what reads one of the List.
func (r *reader) opWith(c api.Cell, one func(*reader, api.Cell) api.Op) api.Op {
	p := r.parts(c, 11)
	return api.Op{
		Kind: r.num(p[0]),
		Key:  r.text(p[1]),
		To:   r.text(p[2]),
		Doc:  r.document(p[3]),
		Want: r.document(p[4]),
		Has:  r.truth(p[5]),
		N:    r.num(p[6]),
		Most: r.num(p[7]),
		List: listOf(r, p[8], one),
		Docs: listOf(r, p[9], (*reader).named),
		News: listOf(r, p[10], (*reader).change),
	}
}

func (r *reader) request(c api.Cell) api.Request {
	p := r.parts(c, 3)
	return api.Request{Client: r.num(p[0]), Id: r.num(p[1]), Op: r.op(p[2])}
}

func (r *reader) answer(c api.Cell) api.Answer {
	p := r.parts(c, 8)
	return api.Answer{
		Code:  api.Errno(r.num(p[0])),
		Has:   r.truth(p[1]),
		Doc:   r.document(p[2]),
		Docs:  listOf(r, p[3], (*reader).named),
		News:  listOf(r, p[4], (*reader).change),
		N:     r.num(p[5]),
		Total: r.num(p[6]),
		Keys:  listOf(r, p[7], (*reader).pair),
	}
}

func (r *reader) chain(c api.Cell) api.Chain {
	p := r.parts(c, 5)
	return api.Chain{
		Id:      r.num(p[0]),
		Def:     r.text(p[1]),
		Epoch:   r.num(p[2]),
		Members: listOf(r, p[3], (*reader).num),
		Joiner:  r.num(p[4]),
	}
}

func (r *reader) conf(c api.Cell) api.Conf {
	p := r.parts(c, 3)
	return api.Conf{Rev: r.num(p[0]), Ever: r.num(p[1]), Chains: listOf(r, p[2], (*reader).chain)}
}

func (r *reader) cmd(c api.Cell) api.Cmd {
	p := r.parts(c, 6)
	return api.Cmd{
		Kind:  r.num(p[0]),
		Chain: r.num(p[1]),
		Epoch: r.num(p[2]),
		Node:  r.num(p[3]),
		Def:   r.text(p[4]),
		Nodes: listOf(r, p[5], (*reader).num),
	}
}

func (r *reader) log(c api.Cell) api.Log {
	p := r.parts(c, 2)
	return api.Log{Term: r.num(p[0]), Cmd: r.bytes(p[1])}
}

func (r *reader) msg(c api.Cell) api.Msg {
	at := min(headParts, len(c.List))
	p := r.parts(parts(c.List[:at]...), headParts)
	m := api.Msg{
		Kind:    r.num(p[0]),
		Chain:   r.num(p[1]),
		Epoch:   r.num(p[2]),
		At:      r.num(p[3]),
		Len:     r.num(p[4]),
		Commit:  r.num(p[5]),
		Term:    r.num(p[6]),
		Last:    r.num(p[7]),
		Yes:     r.truth(p[8]),
		Entries: listOf(r, p[9], (*reader).bytes),
		Logs:    listOf(r, p[10], (*reader).log),
	}
	r.must(known(m.Kind))
	r.behind(&m, parts(c.List[at:]...))
	return m
}

// behind reads what a message of its kind has behind what all have.
func (r *reader) behind(m *api.Msg, c api.Cell) {
	switch m.Kind {
	case api.MsgConf:
		m.Conf = r.conf(r.parts(c, 1)[0])
	case api.MsgWant:
		m.Cmd = r.cmd(r.parts(c, 1)[0])
	case api.MsgAsk:
		m.Request = r.request(r.parts(c, 1)[0])
	case api.MsgTell:
		p := r.parts(c, 2)
		m.Request = r.request(p[0])
		m.Answer = r.answer(p[1])
	default:
		r.parts(c, 0)
	}
}
