package wire_test

import (
	"fmt"
	"math"
	"reflect"
	"strings"
	"testing"

	"tailrace/api"
	"tailrace/cell"
	"tailrace/paper"
	"tailrace/rank"
	"tailrace/seal"
	"tailrace/wire"
)

func doc(fields ...api.Field) api.Doc { return fields }

func field(path string, v api.Value) api.Field { return api.Field{Path: path, Val: v} }

// docs are some that may be.
func docs() []api.Doc {
	return []api.Doc{
		nil,
		{},
		doc(field("a", rank.Num(1))),
		doc(field("a", rank.Text("\x00\xff")), field("a.b", rank.Point(-1<<20, 1<<20)), field("b", rank.Num(-1<<53))),
		doc(field(strings.Repeat("a", 64), rank.Text(strings.Repeat("x", 256)))),
		manyFields(16),
	}
}

// noDocs are some that may not be.
func noDocs() []api.Doc {
	return []api.Doc{
		doc(field("b", rank.Num(1)), field("a", rank.Num(1))),
		doc(field("a", rank.Num(1)), field("a", rank.Num(1))),
		doc(field("", rank.Num(1))),
		doc(field("A", rank.Num(1))),
		doc(field("a", api.Value{})),
		doc(field("a", api.Value{Kind: api.ValNum, Num: 1, Text: "x"})),
		doc(field("a", rank.Num(1<<53+1))),
		doc(field("a", rank.Text(strings.Repeat("x", 257)))),
		doc(field("a", rank.Point(0, 1<<20+1))),
		manyFields(17),
	}
}

func manyFields(n int) api.Doc {
	var d api.Doc
	for i := range n {
		d = append(d, field(string(rune('a'+i)), rank.Num(i)))
	}
	return d
}

// op is what has something in all its parts, each one another thing, and what is asked at once.
func op(at int, list ...api.Op) api.Op {
	d := docs()[3]
	return api.Op{
		Kind: at + 1, Key: fmt.Sprint("key", at), To: fmt.Sprint("to", at), Doc: d[:1], Want: d[1:2], Has: true, N: -at - 2, Most: at + 3, List: list,
		Docs: []api.Named{{Key: "x", Doc: d[1:]}, {Key: "y"}, {}},
		News: []api.Change{{Pos: at + 4, Key: "z", Has: true, Doc: d[2:]}, {Pos: -1, Doc: d[:2]}, {}},
	}
}

func request(at int) api.Request {
	return api.Request{Client: at + 1, Id: -at - 2, Op: op(at+3, op(at+10), api.Op{}, op(at+20))}
}

func answer() api.Answer {
	d := docs()[3]
	return api.Answer{
		Code: api.ErrCas, Has: true, Doc: d,
		Docs: []api.Named{{Key: "k", Doc: d[:1]}, {}},
		News: []api.Change{{Pos: 41, Key: "l", Has: true, Doc: d[1:]}, {Pos: -42}},
		N:    43, Total: -44, Keys: []api.Pair{{Key: "m", Val: "n"}, {}, {Val: "o"}},
	}
}

func conf() api.Conf {
	return api.Conf{Rev: 51, Ever: -52, Chains: []api.Chain{
		{Id: 53, Def: "low(a),b", Epoch: 54, Members: []int{3, 1, -2}, Joiner: 55}, {}, {Id: -56, Members: []int{0}},
	}}
}

func cmd() api.Cmd {
	return api.Cmd{Kind: 61, Chain: -62, Epoch: 63, Node: 64, Def: "norm(p)", Nodes: []int{7, -8, 0, 9}}
}

// msg is a message of a kind, with something in all that is written of it.
func msg(kind int) api.Msg {
	m := api.Msg{
		Kind: kind, Chain: 71, Epoch: -72, At: 73, Len: 74, Commit: 75, Term: -76, Last: 77, Yes: true,
		Entries: [][]byte{[]byte("one"), nil, {}, {0, 255}},
		Logs:    []api.Log{{Term: 78, Cmd: []byte("\x03\x00")}, {}, {Term: -79}},
	}
	switch kind {
	case api.MsgConf:
		m.Conf = conf()
	case api.MsgWant:
		m.Cmd = cmd()
	case api.MsgAsk:
		m.Request = request(80)
	case api.MsgTell:
		m.Request, m.Answer = request(80), answer()
	}
	return m
}

// kinds are those of messages.
func kinds() []int {
	var l []int
	for k := api.MsgForward; k < api.MsgKinds; k++ {
		l = append(l, k)
	}
	return l
}

// whole has something in all parts, those that are not written too.
func whole() api.Msg {
	m := msg(api.MsgTell)
	m.Conf, m.Cmd = conf(), cmd()
	return m
}

// cellOf is the cell of a part, that may be, by the words: api has its fields in their order.
func cellOf(v reflect.Value) api.Cell {
	switch x := v.Interface().(type) {
	case api.Doc:
		c, _ := paper.Cell(x)
		return c
	case api.Msg:
		return cell.List(msgParts(v)...)
	case []byte:
		return cell.Text(string(x))
	case bool:
		return cell.Num(map[bool]int{true: 1}[x])
	case string:
		return cell.Text(x)
	}
	if v.Kind() == reflect.Int {
		return cell.Num(int(v.Int()))
	}
	return cell.List(partsOf(v)...)
}

// partsOf is the cells of the parts of a list, or of a struct.
func partsOf(v reflect.Value) []api.Cell {
	var l []api.Cell
	if v.Kind() == reflect.Slice {
		for i := range v.Len() {
			l = append(l, cellOf(v.Index(i)))
		}
		return l
	}
	for i := range v.NumField() {
		l = append(l, cellOf(v.Field(i)))
	}
	return l
}

// written is the names of what is written of a message of a kind behind what all have.
func written(kind int) []string {
	return map[int][]string{
		api.MsgConf: {"Conf"}, api.MsgWant: {"Cmd"}, api.MsgAsk: {"Request"}, api.MsgTell: {"Request", "Answer"},
	}[kind]
}

func msgParts(v reflect.Value) []api.Cell {
	l := partsOf(v)[:11]
	for _, name := range written(int(v.Field(0).Int())) {
		l = append(l, cellOf(v.FieldByName(name)))
	}
	return l
}

// plain is the bytes of a cell.
func plain(t *testing.T, c api.Cell) []byte {
	t.Helper()
	b, e := cell.Encode(c)
	if e != api.OK {
		t.Fatalf("the cell's bytes: error %d", e)
	}
	return b
}

// sealed is a sealed record, if it is not too long.
func sealed(t *testing.T, b []byte) []byte {
	t.Helper()
	s, e := seal.Record(b)
	if e != api.OK {
		t.Fatalf("the sealed record: error %d", e)
	}
	return s
}

// line is one of the three that are written and read.
type line[T any] struct {
	name   string
	t      *testing.T
	write  func(T) ([]byte, api.Errno)
	read   func([]byte) (T, api.Errno)
	sealed bool
}

func requests(t *testing.T) line[api.Request] {
	return line[api.Request]{"Request", t, wire.Request, wire.RequestOf, false}
}

func cmds(t *testing.T) line[api.Cmd] {
	return line[api.Cmd]{"Cmd", t, wire.Cmd, wire.CmdOf, false}
}

func msgs(t *testing.T) line[api.Msg] {
	return line[api.Msg]{"Msg", t, wire.Encode, wire.Decode, true}
}

// bytes is the bytes that a cell has on this line.
func (l line[T]) bytes(c api.Cell) []byte {
	l.t.Helper()
	b := plain(l.t, c)
	if l.sealed {
		return sealed(l.t, b)
	}
	return b
}

// goes asks for one to be written as its cell, and to be read again.
func (l line[T]) goes(one T) {
	l.t.Helper()
	right := l.bytes(cellOf(reflect.ValueOf(one)))
	b, e := l.write(one)
	if e != api.OK || string(b) != string(right) {
		l.t.Fatalf("%s of %+v = %x, error %d, not %x", l.name, one, b, e, right)
	}
	again, e := l.read(b)
	if e != api.OK || !alike(reflect.ValueOf(again), reflect.ValueOf(one)) {
		l.t.Fatalf("%s of %x: %+v, error %d, not %+v", l.name, b, again, e, one)
	}
}

// refuses asks for one not to be written.
func (l line[T]) refuses(one T) {
	l.t.Helper()
	if b, e := l.write(one); e != api.ErrArg || len(b) != 0 {
		l.t.Fatalf("%s of %.1000q: %x, error %d", l.name, fmt.Sprintf("%+v", one), b, e)
	}
}

// rejects asks for bytes to be none's.
func (l line[T]) rejects(b []byte) {
	l.t.Helper()
	if one, e := l.read(b); e != api.ErrText || !reflect.ValueOf(one).IsZero() {
		l.t.Fatalf("%s of %x: %+v, error %d", l.name, b, one, e)
	}
}

// alike tells whether things are, an empty list being as none.
func alike(a, b reflect.Value) bool {
	switch a.Kind() {
	case reflect.Slice:
		if a.Len() != b.Len() {
			return false
		}
		for i := range a.Len() {
			if !alike(a.Index(i), b.Index(i)) {
				return false
			}
		}
		return true
	case reflect.Struct:
		for i := range a.NumField() {
			if !alike(a.Field(i), b.Field(i)) {
				return false
			}
		}
		return true
	}
	return a.Interface() == b.Interface()
}

// each goes through all that is within a thing that can be set, itself too, but for what is in documents.
func each(name string, v reflect.Value, see func(string, reflect.Value)) {
	see(name, v)
	if v.Type() == reflect.TypeFor[api.Doc]() || v.Type() == reflect.TypeFor[[]byte]() {
		return
	}
	switch v.Kind() {
	case reflect.Slice:
		for i := range v.Len() {
			each(fmt.Sprintf("%s[%d]", name, i), v.Index(i), see)
		}
	case reflect.Struct:
		for i := range v.NumField() {
			each(name+"."+v.Type().Field(i).Name, v.Field(i), see)
		}
	}
}

// turned has one piece of a thing set to another one, each piece of a type in its turn, and hands it on.
func turned[T, P any](one T, to P, see func(string, T)) {
	v := reflect.ValueOf(&one).Elem()
	each("", v, func(name string, piece reflect.Value) {
		if p, ok := piece.Addr().Interface().(*P); ok {
			was := *p
			*p = to
			see(name, one)
			*p = was
		}
	})
}

// ifWritten hands on a message of which nothing stands where it is not written, and that is of a kind.
func ifWritten(see func(string, api.Msg)) func(string, api.Msg) {
	return func(name string, m api.Msg) {
		if alike(reflect.ValueOf(m), reflect.ValueOf(bare(m))) && name != ".Kind" {
			see(name, m)
		}
	}
}

// copyOf is a thing in memory of its own; an empty list stays one, and none is none.
func copyOf[T any](one T) T {
	var out T
	copyTo(reflect.ValueOf(&out).Elem(), reflect.ValueOf(one))
	return out
}

func copyTo(to, from reflect.Value) {
	switch {
	case from.Kind() == reflect.Slice && !from.IsNil():
		to.Set(reflect.MakeSlice(from.Type(), from.Len(), from.Len()))
		for i := range from.Len() {
			copyTo(to.Index(i), from.Index(i))
		}
	case from.Kind() == reflect.Struct:
		for i := range from.NumField() {
			copyTo(to.Field(i), from.Field(i))
		}
	default:
		to.Set(from)
	}
}

// dice are thrown alike each time.
type dice uint64

func (d *dice) roll(n int) int {
	*d = *d*6364136223846793005 + 1442695040888963407
	return int(uint64(*d)>>33) % n
}

// fill throws all that is in a thing; level is how deep lists of asks may lie in each other.
func (d *dice) fill(v reflect.Value, level int) {
	switch p := v.Addr().Interface().(type) {
	case *api.Doc:
		*p = docs()[d.roll(5)]
		return
	case *[]api.Op:
		if level == 0 {
			*p = nil
			return
		}
		level--
	}
	switch v.Kind() {
	case reflect.Int:
		v.SetInt(int64([]int{0, 1, -1, 63, 64, -64, -65, 1 << 31, 1 << 53, -1 << 53, d.roll(1000)}[d.roll(11)]))
	case reflect.Uint8:
		v.SetUint(uint64(d.roll(256)))
	case reflect.Bool:
		v.SetBool(d.roll(2) == 0)
	case reflect.String:
		v.SetString([]string{"", "a", "\x00\xff", strings.Repeat("b", 130), fmt.Sprint(d.roll(1000))}[d.roll(5)])
	case reflect.Slice:
		n := d.roll(4)
		v.Set(reflect.MakeSlice(v.Type(), n, n))
		for i := range n {
			d.fill(v.Index(i), level)
		}
	case reflect.Struct:
		for i := range v.NumField() {
			d.fill(v.Field(i), level)
		}
	}
}

// thrown is a thing of dice.
func thrown[T any](d *dice) T {
	var one T
	d.fill(reflect.ValueOf(&one).Elem(), 1)
	return one
}

// thrownMsg is a message of dice, of a kind, with what is written of it.
func thrownMsg(d *dice, kind int) api.Msg {
	m := thrown[api.Msg](d)
	m.Kind = kind
	return bare(m)
}

// bare is a message without what is not written of it.
func bare(m api.Msg) api.Msg {
	v := reflect.ValueOf(&m).Elem()
	for _, name := range []string{"Conf", "Cmd", "Request", "Answer"} {
		if f := v.FieldByName(name); !strings.Contains(fmt.Sprint(written(m.Kind)), name) {
			f.SetZero()
		}
	}
	return m
}

// beyond are numbers that no cell may have.
func beyond() []int { return []int{1<<53 + 1, -1<<53 - 1, math.MinInt, math.MaxInt} }
