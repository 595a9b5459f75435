package wire_test

import (
	"fmt"
	"math"
	"reflect"
	"slices"
	"strings"
	"testing"

	"tailrace/api"
	"tailrace/cell"
	"tailrace/paper"
	"tailrace/rank"
	"tailrace/seal"
	"tailrace/wire"
)

func TestTheExample(t *testing.T) {
	b, e := wire.Cmd(api.Cmd{Kind: api.CmdNone})
	if e != api.OK || string(b) != "\x03\x06\x01\x0c\x01\x00\x01\x00\x01\x00\x02\x00\x03\x00" {
		t.Errorf("Cmd = %x, error %d", b, e)
	}
	c, e := wire.CmdOf(b)
	if e != api.OK || c.Kind != api.CmdNone || !alike(reflect.ValueOf(c), reflect.ValueOf(api.Cmd{Kind: api.CmdNone})) {
		t.Errorf("CmdOf = %+v, error %d", c, e)
	}
}

// Wi1: what is written

var num, text, list = cell.Num, cell.Text, cell.List

func docCell(d api.Doc) api.Cell {
	c, _ := paper.Cell(d)
	return c
}

// The order of all parts, one by one.
func TestTheOrderOfParts(t *testing.T) {
	one, two := doc(field("a", rank.Num(1))), doc(field("b", rank.Point(2, 3)))
	d1, d2 := docCell(one), docCell(two)
	o := api.Op{
		Kind: 1, Key: "k", To: "t", Doc: one, Want: two, Has: true, N: 2, Most: 3, List: []api.Op{{Kind: 4}},
		Docs: []api.Named{{Key: "n", Doc: one}}, News: []api.Change{{Pos: 5, Key: "c", Has: true, Doc: two}},
	}
	inner := list(num(4), text(""), text(""), list(), list(), num(0), num(0), num(0), list(), list(), list())
	oc := list(num(1), text("k"), text("t"), d1, d2, num(1), num(2), num(3), list(inner), list(list(text("n"), d1)), list(list(num(5), text("c"), num(1), d2)))
	q, qc := api.Request{Client: 6, Id: 7, Op: o}, list(num(6), num(7), oc)
	a := api.Answer{
		Code: 8, Has: true, Doc: one, Docs: []api.Named{{Key: "m"}}, News: []api.Change{{Pos: 9}}, N: 10, Total: 11, Keys: []api.Pair{{Key: "y", Val: "v"}},
	}
	ac := list(num(8), num(1), d1, list(list(text("m"), list())), list(list(num(9), text(""), num(0), list())), num(10), num(11), list(list(text("y"), text("v"))))
	f := api.Conf{Rev: 12, Ever: 13, Chains: []api.Chain{{Id: 14, Def: "d", Epoch: 15, Members: []int{16, 17}, Joiner: 18}}}
	fc := list(num(12), num(13), list(list(num(14), text("d"), num(15), list(num(16), num(17)), num(18))))
	c := api.Cmd{Kind: 19, Chain: 20, Epoch: 21, Node: 22, Def: "e", Nodes: []int{23, 24}}
	cc := list(num(19), num(20), num(21), num(22), text("e"), list(num(23), num(24)))
	if b, e := wire.Request(q); e != api.OK || string(b) != string(plain(t, qc)) {
		t.Errorf("Request = %x, error %d", b, e)
	}
	if b, e := wire.Cmd(c); e != api.OK || string(b) != string(plain(t, cc)) {
		t.Errorf("Cmd = %x, error %d", b, e)
	}
	behind := map[int][]api.Cell{api.MsgConf: {fc}, api.MsgWant: {cc}, api.MsgAsk: {qc}, api.MsgTell: {qc, ac}}
	for _, kind := range kinds() {
		m := bare(api.Msg{
			Kind: kind, Chain: 25, Epoch: 26, At: 27, Len: 28, Commit: 29, Term: 30, Last: 31, Yes: true,
			Entries: [][]byte{[]byte("f"), nil}, Logs: []api.Log{{Term: 32, Cmd: []byte("g")}},
			Conf: f, Cmd: c, Request: q, Answer: a,
		})
		mc := []api.Cell{
			num(kind), num(25), num(26), num(27), num(28), num(29), num(30), num(31), num(1),
			list(text("f"), text("")), list(list(num(32), text("g"))),
		}
		right := sealed(t, plain(t, list(append(mc, behind[kind]...)...)))
		if b, e := wire.Encode(m); e != api.OK || string(b) != string(right) {
			t.Errorf("Encode of kind %d = %x, error %d, not %x", kind, b, e, right)
		}
		if x, e := wire.Decode(right); e != api.OK || !alike(reflect.ValueOf(x), reflect.ValueOf(m)) {
			t.Errorf("Decode of kind %d = %+v, error %d", kind, x, e)
		}
	}
}

func TestTheBytesOfAMessage(t *testing.T) {
	// The list of eleven: 4, seven noughts, false, no entries, no logs.
	record := "\x03\x0b\x01\x08" + strings.Repeat("\x01\x00", 8) + "\x03\x00\x03\x00"
	b, e := wire.Encode(api.Msg{Kind: api.MsgBeat})
	if e != api.OK || len(b) != 9+len(record) || string(b[:3]) != "\x00\x00\x18" || string(b[6:6+len(record)]) != record {
		t.Errorf("Encode = %x, error %d", b, e)
	}
	if s, _ := seal.Record([]byte(record)); string(s) != string(b) {
		t.Errorf("Encode = %x, not %x", b, s)
	}
}

// Wi1 and Wi2: what is written is read

func TestWhatIsEncodedIsDecoded(t *testing.T) {
	requests(t).goes(api.Request{})
	cmds(t).goes(api.Cmd{})
	for at := range 5 {
		requests(t).goes(request(at))
		requests(t).goes(api.Request{Op: op(at)})
	}
	cmds(t).goes(cmd())
	for _, kind := range kinds() {
		msgs(t).goes(api.Msg{Kind: kind})
		msgs(t).goes(msg(kind))
	}
	for _, d := range docs() {
		turned(request(1), d, func(_ string, q api.Request) { requests(t).goes(q) })
		turned(msg(api.MsgTell), d, ifWritten(func(_ string, m api.Msg) { msgs(t).goes(m) }))
	}
}

func TestThrownOnes(t *testing.T) {
	d := dice(16)
	for range 300 {
		requests(t).goes(thrown[api.Request](&d))
		cmds(t).goes(thrown[api.Cmd](&d))
		for _, kind := range kinds() {
			msgs(t).goes(thrownMsg(&d, kind))
		}
	}
}

func TestEachKeyAndKindMayBe(t *testing.T) {
	for k := -3; k < 200; k++ {
		requests(t).goes(api.Request{Op: api.Op{Kind: k, List: []api.Op{{Kind: -k}}}})
		cmds(t).goes(api.Cmd{Kind: k})
	}
	for _, s := range []string{"", "\x00", strings.Repeat("x", 300), "\xff\xfe", "low("} {
		turned(request(1), s, func(_ string, q api.Request) { requests(t).goes(q) })
		turned(cmd(), s, func(_ string, c api.Cmd) { cmds(t).goes(c) })
		for _, kind := range []int{api.MsgConf, api.MsgTell} {
			turned(msg(kind), s, ifWritten(func(_ string, m api.Msg) { msgs(t).goes(m) }))
		}
	}
}

// Wi1: what may not be

func TestNumbersAtTheirBounds(t *testing.T) {
	for _, n := range []int{1 << 53, -1 << 53} {
		turned(request(1), n, func(_ string, q api.Request) { requests(t).goes(q) })
		turned(cmd(), n, func(_ string, c api.Cmd) { cmds(t).goes(c) })
		for _, kind := range kinds() {
			turned(msg(kind), n, ifWritten(func(_ string, m api.Msg) { msgs(t).goes(m) }))
		}
		turned(msg(api.MsgTell), api.Errno(n), func(_ string, m api.Msg) { msgs(t).goes(m) })
	}
	for _, n := range beyond() {
		turned(request(1), n, func(_ string, q api.Request) { requests(t).refuses(q) })
		turned(cmd(), n, func(_ string, c api.Cmd) { cmds(t).refuses(c) })
		for _, kind := range kinds() {
			turned(msg(kind), n, ifWritten(func(_ string, m api.Msg) { msgs(t).refuses(m) }))
		}
		turned(msg(api.MsgTell), api.Errno(n), func(_ string, m api.Msg) { msgs(t).refuses(m) })
	}
}

func TestDocumentsThatMayNotBe(t *testing.T) {
	for _, d := range noDocs() {
		seen := 0
		turned(request(1), d, func(_ string, q api.Request) {
			requests(t).refuses(q)
			seen++
		})
		for _, kind := range []int{api.MsgAsk, api.MsgTell} {
			turned(msg(kind), d, ifWritten(func(_ string, m api.Msg) {
				msgs(t).refuses(m)
				seen++
			}))
		}
		// Three asks with eight each, one with two; thrice; and of an answer five.
		if seen != 3*(3*8+2)+5 {
			t.Fatalf("%d documents were turned", seen)
		}
	}
}

func TestKindsOfMessages(t *testing.T) {
	for k := -300; k <= 300; k++ {
		m := msg(api.MsgBeat)
		m.Kind = k
		mc := cellOf(reflect.ValueOf(m))
		if written(k) != nil {
			m = msg(k)
		}
		if 1 <= k && k <= 11 {
			msgs(t).goes(m)
		} else {
			msgs(t).refuses(m)
			msgs(t).rejects(msgs(t).bytes(mc))
		}
	}
	for _, k := range []int{math.MinInt, math.MaxInt, 1<<32 + 1, 1<<8 + 1} {
		msgs(t).refuses(api.Msg{Kind: k})
	}
}

func TestWhatIsNotWrittenIsNothing(t *testing.T) {
	for _, kind := range kinds() {
		one := func(name string, m api.Msg) {
			part, _, _ := strings.Cut(name[1:], ".")
			isWritten := slices.Contains(written(kind), part) || !slices.Contains([]string{"Conf", "Cmd", "Request", "Answer"}, part)
			if name == ".Kind" {
				return
			}
			if isWritten {
				msgs(t).goes(m)
			} else {
				msgs(t).refuses(m)
			}
		}
		nothing := api.Msg{Kind: kind}
		turned(nothing, 1, one)
		turned(nothing, -1, one)
		turned(nothing, true, one)
		turned(nothing, "x", one)
		turned(nothing, api.Errno(1), one)
		turned(nothing, docs()[2], one)
		turned(nothing, []int{0}, one)
		turned(nothing, []api.Op{{}}, one)
		turned(nothing, []api.Named{{}}, one)
		turned(nothing, []api.Change{{}}, one)
		turned(nothing, []api.Chain{{}}, one)
		turned(nothing, []api.Pair{{}}, one)
	}
}

func TestEmptyListsAreAsNone(t *testing.T) {
	for _, kind := range kinds() {
		goes := func(_ string, m api.Msg) { msgs(t).goes(m) }
		nothing := api.Msg{Kind: kind}
		turned(nothing, api.Doc{}, goes)
		turned(nothing, []int{}, goes)
		turned(nothing, []api.Op{}, goes)
		turned(nothing, []api.Named{}, goes)
		turned(nothing, []api.Change{}, goes)
		turned(nothing, []api.Chain{}, goes)
		turned(nothing, []api.Pair{}, goes)
		turned(nothing, [][]byte{}, goes)
		turned(nothing, []api.Log{}, goes)
	}
}

func TestListsWithinLists(t *testing.T) {
	for n := 1; n <= 5; n++ {
		for at := range n {
			q := api.Request{Op: api.Op{Kind: api.OpBatch, List: make([]api.Op, n)}}
			inner := &q.Op.List[at].List
			*inner = []api.Op{}
			requests(t).goes(q)
			for _, l := range [][]api.Op{{{}}, {{Kind: 1, Doc: docs()[2]}}, {{}, {Key: "x"}}} {
				*inner = l
				requests(t).refuses(q)
				requests(t).rejects(requests(t).bytes(cellOf(reflect.ValueOf(q))))
				for _, m := range []api.Msg{{Kind: api.MsgAsk, Request: q}, {Kind: api.MsgTell, Request: q}} {
					msgs(t).refuses(m)
					msgs(t).rejects(msgs(t).bytes(cellOf(reflect.ValueOf(m))))
				}
			}
		}
	}
}

// longest makes one longer till it has just so many bytes, and then by one more.
func longest[T any](l line[T], grow func(n int) T) {
	l.t.Helper()
	near := plain(l.t, cellOf(reflect.ValueOf(grow(15000))))
	for n := 15000 + 16370 - len(near); ; n++ {
		one := grow(n)
		b := plain(l.t, cellOf(reflect.ValueOf(one)))
		if len(b) > api.MaxRecord {
			l.refuses(one)
			if !l.sealed {
				l.rejects(b)
			}
			if len(b) != 16385 {
				l.t.Errorf("%s: %d bytes", l.name, len(b))
			}
			return
		}
		if len(b) > 16380 {
			l.goes(one)
		}
	}
}

func TestTheLongest(t *testing.T) {
	x := func(n int) string { return strings.Repeat("x", n) }
	longest(requests(t), func(n int) api.Request { return api.Request{Client: 5, Op: api.Op{Key: x(n)}} })
	longest(requests(t), func(n int) api.Request {
		q := request(1)
		q.Op.List[2].News[1].Key = x(n - 1000)
		return q
	})
	longest(cmds(t), func(n int) api.Cmd { return api.Cmd{Def: x(n)} })
	longest(msgs(t), func(n int) api.Msg { return api.Msg{Kind: api.MsgForward, Entries: [][]byte{nil, []byte(x(n))}} })
	longest(msgs(t), func(n int) api.Msg {
		return api.Msg{Kind: api.MsgPush, Logs: []api.Log{{Term: 1, Cmd: []byte(x(7000))}, {Cmd: []byte(x(n - 7000))}}}
	})
	longest(msgs(t), func(n int) api.Msg {
		return api.Msg{Kind: api.MsgForward, Entries: append(make([][]byte, 4000), []byte(x(n-8000)))}
	})
	longest(msgs(t), func(n int) api.Msg {
		m := msg(api.MsgTell)
		m.Answer.Keys[1].Val = x(n - 2000)
		return m
	})
	for _, n := range []int{16384, 16385, 65530, 65536, 65537, 1 << 20} {
		cmds(t).refuses(api.Cmd{Def: x(n)})
		requests(t).refuses(api.Request{Op: api.Op{To: x(n)}})
		msgs(t).refuses(api.Msg{Kind: api.MsgForward, Entries: [][]byte{[]byte(x(n))}})
	}
}

func TestTooManyCells(t *testing.T) {
	// A command is the list, five parts and the list of its nodes: seven cells.
	cmds(t).goes(api.Cmd{Nodes: make([]int, 4096-7)})
	for _, n := range []int{4096 - 6, 5000, 8000, 8192, 9000, 1 << 20} {
		cmds(t).refuses(api.Cmd{Nodes: make([]int, n)})
	}
	msgs(t).goes(api.Msg{Kind: api.MsgForward, Entries: make([][]byte, 4096-12)})
	msgs(t).refuses(api.Msg{Kind: api.MsgForward, Entries: make([][]byte, 4096-11)})
	cmds(t).rejects([]byte("\x03\x06\x01\x0c\x01\x00\x01\x00\x01\x00\x02\x00\x03\xfa\x1f" + strings.Repeat("\x01\x00", 4096-6)))
}

// Wi1: what is none's bytes

// wrong is the cells of a part that are none's, each at one place alone.
func wrong(v reflect.Value) []api.Cell {
	switch v.Interface().(type) {
	case api.Doc:
		point := list(text("a"), list(num(1<<20+1), num(0)))
		return []api.Cell{num(0), text(""), list(num(0)), list(list(text("b"), num(1)), list(text("a"), num(1))), list(point), list(list(text("a")))}
	case []byte, string:
		return []api.Cell{num(0), num(1), list(), list(text("a"))}
	case bool:
		return []api.Cell{num(2), num(-1), num(3), num(1 << 53), text(""), text("\x01"), list(), list(num(1))}
	}
	if v.Kind() == reflect.Int {
		return []api.Cell{text(""), text("\x00"), list(), list(num(1))}
	}
	out := []api.Cell{num(0), text("")}
	l := partsOf(v)
	if v.Type() == reflect.TypeFor[api.Msg]() {
		l = msgParts(v)
	}
	if v.Kind() == reflect.Struct {
		out = append(out, list(), list(l[1:]...), list(l[:len(l)-1]...))
		for _, c := range []api.Cell{num(0), text(""), list(), l[0], l[len(l)-1]} {
			out = append(out, list(append(l, c)...))
		}
	}
	for i := range l {
		for _, c := range wrong(part(v, i)) {
			out = append(out, list(slices.Concat(l[:i], []api.Cell{c}, l[i+1:])...))
		}
	}
	return out
}

// part is the i-th one that is written.
func part(v reflect.Value, i int) reflect.Value {
	switch {
	case v.Kind() == reflect.Slice:
		return v.Index(i)
	case v.Type() == reflect.TypeFor[api.Msg]() && i >= 11:
		return v.FieldByName(written(int(v.Field(0).Int()))[i-11])
	}
	return v.Field(i)
}

func (l line[T]) rejectsWrong(one T) {
	l.t.Helper()
	n := 0
	for _, c := range wrong(reflect.ValueOf(one)) {
		l.rejects(l.bytes(c))
		n++
	}
	if n < 40 {
		l.t.Errorf("%s: %d wrong ones", l.name, n)
	}
}

func TestCellsOfNone(t *testing.T) {
	requests(t).rejectsWrong(request(1))
	requests(t).rejectsWrong(api.Request{})
	cmds(t).rejectsWrong(cmd())
	for _, kind := range kinds() {
		msgs(t).rejectsWrong(msg(kind))
		msgs(t).rejectsWrong(api.Msg{Kind: kind})
	}
	for _, of := range kinds() {
		l := msgParts(reflect.ValueOf(msg(of)))
		for _, kind := range kinds() {
			l[0] = num(kind)
			b := msgs(t).bytes(list(l...))
			if slices.Equal(written(kind), written(of)) {
				if m, e := wire.Decode(b); e != api.OK || m.Kind != kind {
					t.Errorf("kind %d as %d: %+v, error %d", of, kind, m, e)
				}
			} else {
				msgs(t).rejects(b)
			}
		}
	}
}

// Bytes that are cut, or have more, are none's; of a part of another kind too.
func TestBytesOfNone(t *testing.T) {
	q, _ := wire.Request(request(1))
	c, _ := wire.Cmd(cmd())
	for n := range q {
		requests(t).rejects(q[:n])
	}
	for n := range c {
		cmds(t).rejects(c[:n])
	}
	for _, more := range []string{"\x00", "\x01\x00", "\xff", string(q), string(c), strings.Repeat("\x00", 70000)} {
		requests(t).rejects(append(slices.Clone(q), more...))
		cmds(t).rejects(append(slices.Clone(c), more...))
		requests(t).rejects(append([]byte(more), q...))
	}
	requests(t).rejects(c)
	cmds(t).rejects(q)
	for _, b := range []string{"", "\x00", "\x03", "\x03\x00", "\x01\x00", "\x02\x00", "\x04\x06", strings.Repeat("\x03\x01", 12) + "\x01\x00"} {
		requests(t).rejects([]byte(b))
		cmds(t).rejects([]byte(b))
		msgs(t).rejects([]byte(b))
		msgs(t).rejects(sealed(t, []byte(b)))
	}
	// A count with a needless nought is no cell's.
	cmds(t).rejects([]byte("\x03\x86\x00\x01\x0c\x01\x00\x01\x00\x01\x00\x02\x00\x03\x00"))
	cmds(t).rejects([]byte("\x03\x06\x01\x8c\x00\x01\x00\x01\x00\x01\x00\x02\x00\x03\x00"))
}

func TestRecordsOfNone(t *testing.T) {
	for _, kind := range kinds() {
		b, _ := wire.Encode(msg(kind))
		for n := range b {
			msgs(t).rejects(b[:n])
			msgs(t).rejects(b[n+1:])
		}
		for _, more := range []string{"\x00", "\xff", string(b), strings.Repeat("\x00", 9)} {
			msgs(t).rejects(append(slices.Clone(b), more...))
			msgs(t).rejects(append([]byte(more), b...))
		}
		inner := b[6 : len(b)-3]
		msgs(t).rejects(inner)
		msgs(t).rejects(sealed(t, b))
		for n := range inner {
			msgs(t).rejects(sealed(t, inner[:n]))
		}
		msgs(t).rejects(sealed(t, append(slices.Clone(inner), 0)))
		requests(t).rejects(b)
		requests(t).rejects(inner)
		cmds(t).rejects(inner)
	}
}

// Wi1: Same

func TestSame(t *testing.T) {
	one := whole()
	if !wire.Same(one, whole()) {
		t.Fatal("one is not like itself")
	}
	unlike := func(name string, m api.Msg) {
		if wire.Same(m, whole()) || wire.Same(whole(), m) {
			t.Errorf("another %s is alike", name)
		}
		if !wire.Same(m, m) {
			t.Errorf("with another %s it is not like itself", name)
		}
	}
	for _, n := range []int{99, -99, math.MinInt, 1 << 40} {
		turned(one, n, unlike)
		turned(one, api.Errno(n), unlike)
	}
	turned(one, "another", unlike)
	turned(one, doc(field("another", rank.Num(1))), unlike)
	turned(one, noDocs()[0], unlike)
	turned(one, []byte("another"), unlike)
	turned(one, []int{99}, unlike)
	turned(one, []api.Op{{}}, unlike)
	turned(one, []api.Named{{Key: "x"}}, unlike)
	turned(one, []api.Change{{Pos: 9}}, unlike)
	turned(one, []api.Pair{{Key: "m"}}, unlike)
	turned(one, []api.Chain{{Id: 53}}, unlike)
	turned(one, []api.Log{{Term: 78}}, unlike)
	turned(one, [][]byte{[]byte("one")}, unlike)
	v := reflect.ValueOf(&one).Elem()
	each("", v, func(name string, piece reflect.Value) {
		switch {
		case piece.Kind() == reflect.Bool:
			piece.SetBool(!piece.Bool())
			unlike(name, one)
			piece.SetBool(!piece.Bool())
		case piece.Kind() == reflect.Slice && piece.Len() > 0:
			n := piece.Len()
			was := reflect.ValueOf(piece.Interface()).Slice3(0, n, n)
			// None, all but the last, and one more.
			for _, l := range []reflect.Value{was.Slice(0, 0), was.Slice(0, n-1), reflect.Append(was, reflect.Zero(was.Type().Elem()))} {
				piece.Set(l)
				unlike(fmt.Sprintf("%s, %d long", name, l.Len()), one)
			}
			piece.Set(was)
		}
	})
	if !wire.Same(one, whole()) {
		t.Error("what was turned back is another one")
	}
}

// Same holds alike an empty list and none, and all that lies behind a list's end.
func TestSameOfEmptyLists(t *testing.T) {
	one := whole()
	v := reflect.ValueOf(&one).Elem()
	each("", v, func(name string, piece reflect.Value) {
		if piece.Kind() != reflect.Slice {
			return
		}
		was := reflect.ValueOf(piece.Interface())
		piece.Set(reflect.MakeSlice(was.Type(), 0, 3))
		with := copyOf(one)
		piece.SetZero()
		if !wire.Same(one, with) || !wire.Same(with, one) {
			t.Errorf("%s: an empty list is not as none", name)
		}
		piece.Set(was)
	})
	few, more := whole(), whole()
	few.Entries, few.Logs, few.Request.Op.List = few.Entries[:1], few.Logs[:1], few.Request.Op.List[:1]
	more.Entries, more.Logs, more.Request.Op.List = slices.Clip(more.Entries[:1]), more.Logs[:1:1], more.Request.Op.List[:1:1]
	if !wire.Same(few, more) {
		t.Error("what lies behind a list's end makes a difference")
	}
}

func TestSameOfListsWithinLists(t *testing.T) {
	nest := func(leaf int) api.Msg {
		o := api.Op{N: leaf}
		for i := range 5 {
			o = api.Op{N: i, List: []api.Op{{N: 1}, o, {N: 2}}}
		}
		return api.Msg{Request: api.Request{Op: o}}
	}
	if !wire.Same(nest(7), nest(7)) {
		t.Error("lists within lists are not alike")
	}
	if wire.Same(nest(7), nest(8)) || wire.Same(nest(8), nest(7)) {
		t.Error("lists within lists are alike")
	}
	// The same list, held against two others.
	l := []api.Op{{N: 1, List: []api.Op{{N: 5}}}}
	a := api.Msg{Request: api.Request{Op: api.Op{List: []api.Op{{List: l}, {List: l}}}}}
	b := api.Msg{Request: api.Request{Op: api.Op{List: []api.Op{{List: []api.Op{{N: 1, List: []api.Op{{N: 5}}}}}, {List: []api.Op{{N: 1, List: []api.Op{{N: 6}}}}}}}}}
	if wire.Same(a, b) || wire.Same(b, a) || !wire.Same(a, a) || !wire.Same(b, b) {
		t.Error("one list is like two that are not alike")
	}
}
