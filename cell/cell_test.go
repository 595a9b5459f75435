package cell_test

import (
	"bytes"
	"math"
	"runtime/debug"
	"strings"
	"testing"

	"tailrace/api"
	"tailrace/cell"
)

// nest is c within so many lists.
func nest(c api.Cell, lists int) api.Cell {
	for range lists {
		c = api.Cell{Kind: api.CellList, List: []api.Cell{c}}
	}
	return c
}

// many is a list of n noughts.
func many(n int) api.Cell {
	l := make([]api.Cell, n)
	for i := range l {
		l[i] = cell.Num(0)
	}
	return api.Cell{Kind: api.CellList, List: l}
}

// knot is a list that lies within itself, behind a number, twice.
func knot(n int) api.Cell {
	l := make([]api.Cell, 3)
	l[0] = cell.Num(n)
	l[1] = api.Cell{Kind: api.CellList, List: l}
	l[2] = l[1]
	return l[1]
}

// braid is a cell of that depth, of which each list is wide times the next one.
func braid(c api.Cell, wide, lists int) api.Cell {
	for range lists {
		l := make([]api.Cell, wide)
		for i := range l {
			l[i] = c
		}
		c = api.Cell{Kind: api.CellList, List: l}
	}
	return c
}

// Ce1

func TestCheckOneCell(t *testing.T) {
	some := []api.Cell{cell.Num(1)}
	for _, x := range []struct {
		name string
		c    api.Cell
		want api.Errno
	}{
		{"nought", cell.Num(0), api.OK},
		{"greatest", cell.Num(1 << 53), api.OK},
		{"least", cell.Num(-1 << 53), api.OK},
		{"too great", cell.Num(1<<53 + 1), api.ErrArg},
		{"too small", cell.Num(-1<<53 - 1), api.ErrArg},
		{"greatest int", cell.Num(math.MaxInt), api.ErrArg},
		{"least int", cell.Num(math.MinInt), api.ErrArg},
		{"number with a text", api.Cell{Kind: api.CellNum, Text: "a"}, api.ErrArg},
		{"number with a list", api.Cell{Kind: api.CellNum, List: some}, api.ErrArg},
		{"number with an empty list", api.Cell{Kind: api.CellNum, List: []api.Cell{}}, api.OK},
		{"empty text", cell.Text(""), api.OK},
		{"any bytes", cell.Text("\x00\xff"), api.OK},
		{"longest text", cell.Text(strings.Repeat("a", 65536)), api.OK},
		{"too long a text", cell.Text(strings.Repeat("a", 65537)), api.ErrLong},
		{"text with a number", api.Cell{Kind: api.CellText, Num: 1}, api.ErrArg},
		{"text with a list", api.Cell{Kind: api.CellText, List: some}, api.ErrArg},
		{"text with an empty list", api.Cell{Kind: api.CellText, List: []api.Cell{}}, api.OK},
		{"empty list", cell.List(), api.OK},
		{"list with a number", api.Cell{Kind: api.CellList, Num: 1}, api.ErrArg},
		{"list with a text", api.Cell{Kind: api.CellList, Text: "a"}, api.ErrArg},
		{"no kind", api.Cell{}, api.ErrArg},
		{"kind 4", api.Cell{Kind: 4}, api.ErrArg},
		{"kind -1", api.Cell{Kind: -1}, api.ErrArg},
		{"kind 257", api.Cell{Kind: 257}, api.ErrArg},
		{"number with too long a text", api.Cell{Kind: api.CellNum, Text: strings.Repeat("a", 65537)}, api.ErrArg},
	} {
		if e := cell.Check(x.c); e != x.want {
			t.Errorf("%s: %d, not %d", x.name, e, x.want)
		}
		if e := cell.Check(cell.List(cell.Text("b"), cell.List(x.c), cell.Num(2))); e != x.want {
			t.Errorf("%s, within lists: %d, not %d", x.name, e, x.want)
		}
	}
}

func TestCheckDepth(t *testing.T) {
	for _, leaf := range []api.Cell{cell.Num(1), cell.Text("a"), cell.List()} {
		if e := cell.Check(nest(leaf, 11)); e != api.OK {
			t.Errorf("depth 12: %d", e)
		}
		if e := cell.Check(nest(leaf, 12)); e != api.ErrDeep {
			t.Errorf("depth 13: %d", e)
		}
	}
	if e := cell.Check(nest(cell.Num(1), 1000)); e != api.ErrDeep {
		t.Errorf("depth 1001: %d", e)
	}
	hidden := nest(cell.Num(1), 20).List
	for _, kind := range []int{0, api.CellNum, api.CellText, 4} {
		if e := cell.Check(api.Cell{Kind: kind, List: hidden}); e != api.ErrArg {
			t.Errorf("kind %d, which is no list and has depth 1: %d", kind, e)
		}
	}
}

func TestCheckCells(t *testing.T) {
	if e := cell.Check(many(4095)); e != api.OK {
		t.Errorf("4096 cells: %d", e)
	}
	if e := cell.Check(many(4096)); e != api.ErrLong {
		t.Errorf("4097 cells: %d", e)
	}
	if e := cell.Check(cell.List(many(2046), many(2047))); e != api.OK {
		t.Errorf("4096 cells in lists: %d", e)
	}
	if e := cell.Check(cell.List(many(2047), many(2047))); e != api.ErrLong {
		t.Errorf("4097 cells in lists: %d", e)
	}
}

func TestCheckOrder(t *testing.T) {
	deep := nest(cell.Num(1), 12)
	odd := api.Cell{Kind: 9}
	long := cell.Text(strings.Repeat("a", 65537))
	for _, x := range []struct {
		name string
		c    api.Cell
		want api.Errno
	}{
		{"odd, deep", cell.List(odd, deep), api.ErrDeep},
		{"deep, odd", cell.List(deep, odd), api.ErrDeep},
		{"long, deep", cell.List(long, deep), api.ErrDeep},
		{"many, deep", cell.List(many(5000), deep), api.ErrDeep},
		{"long, odd", cell.List(long, odd), api.ErrArg},
		{"odd, long", cell.List(odd, long), api.ErrArg},
		{"many, odd", cell.List(many(5000), odd), api.ErrArg},
		{"many, long", cell.List(many(5000), long), api.ErrLong},
	} {
		if e := cell.Check(x.c); e != x.want {
			t.Errorf("Check, %s: %d, not %d", x.name, e, x.want)
		}
		if b, e := cell.Encode(x.c); e != x.want || len(b) != 0 {
			t.Errorf("Encode, %s: %x, %d, not %d", x.name, b, e, x.want)
		}
	}
}

// What lies within itself has no end, and what is woven is more than can be counted; Check ends all the same.
func TestCheckEnds(t *testing.T) {
	behind := api.Cell{Kind: api.CellList, List: []api.Cell{braid(cell.Num(1), 100, 5), knot(1)}}
	for _, x := range []struct {
		name string
		c    api.Cell
		want api.Errno
	}{
		{"knot", knot(1), api.ErrDeep},
		{"knot behind much", behind, api.ErrDeep},
		{"knot of no kind", api.Cell{List: knot(1).List}, api.ErrArg},
		{"braid", braid(cell.Num(1), 1000, 11), api.ErrLong},
		{"braid of odd ones", braid(api.Cell{}, 1000, 11), api.ErrArg},
		{"braid that is too deep", braid(cell.Num(1), 1000, 12), api.ErrDeep},
	} {
		if e := cell.Check(x.c); e != x.want {
			t.Errorf("Check, %s: %d, not %d", x.name, e, x.want)
		}
		if b, e := cell.Encode(x.c); e != x.want || len(b) != 0 {
			t.Errorf("Encode, %s: %x, %d, not %d", x.name, b, e, x.want)
		}
	}
}

// A list that is well at a level may be too deep at another one.
func TestCheckSharedAtAnotherLevel(t *testing.T) {
	shared := braid(cell.Num(1), 2, 5)
	c := api.Cell{Kind: api.CellList, List: []api.Cell{many(5000), shared, shared, nest(shared, 6)}}
	if e := cell.Check(c); e != api.ErrDeep {
		t.Errorf("error %d", e)
	}
	c.List[3] = nest(shared, 5)
	if e := cell.Check(c); e != api.ErrLong {
		t.Errorf("less deep: error %d", e)
	}
}

func TestEncodeBytes(t *testing.T) {
	for _, x := range []struct {
		c    api.Cell
		want string
	}{
		{cell.List(cell.Num(-1), cell.Text("a")), "\x03\x02\x01\x01\x02\x01a"},
		{cell.Num(0), "\x01\x00"},
		{cell.Num(1), "\x01\x02"},
		{cell.Num(63), "\x01\x7e"},
		{cell.Num(-64), "\x01\x7f"},
		{cell.Num(64), "\x01\x80\x01"},
		{cell.Num(-65), "\x01\x81\x01"},
		{cell.Num(8192), "\x01\x80\x80\x01"},
		{cell.Num(1 << 53), "\x01\x80\x80\x80\x80\x80\x80\x80\x20"},
		{cell.Num(-1 << 53), "\x01\xff\xff\xff\xff\xff\xff\xff\x1f"},
		{cell.Text(""), "\x02\x00"},
		{cell.Text("\x00\xff"), "\x02\x02\x00\xff"},
		{cell.Text(strings.Repeat("a", 127)), "\x02\x7f" + strings.Repeat("a", 127)},
		{cell.Text(strings.Repeat("a", 128)), "\x02\x80\x01" + strings.Repeat("a", 128)},
		{cell.List(), "\x03\x00"},
		{cell.List(cell.List(), cell.List(cell.Text("b"))), "\x03\x02\x03\x00\x03\x01\x02\x01b"},
		{many(200), "\x03\xc8\x01" + strings.Repeat("\x01\x00", 200)},
	} {
		b, e := cell.Encode(x.c)
		if e != api.OK || string(b) != x.want {
			t.Errorf("Encode = %x, error %d, not %x", b, e, x.want)
		}
	}
}

func TestEncodeLong(t *testing.T) {
	b, e := cell.Encode(cell.Text(strings.Repeat("a", 65532)))
	if e != api.OK || len(b) != 65536 {
		t.Errorf("65536 bytes: %d bytes, error %d", len(b), e)
	}
	long := cell.Text(strings.Repeat("a", 65533))
	if b, e := cell.Encode(long); e != api.ErrLong || len(b) != 0 {
		t.Errorf("65537 bytes: %d bytes, error %d", len(b), e)
	}
	if b, e := cell.Encode(braid(long, 4000, 1)); e != api.ErrLong || len(b) != 0 {
		t.Errorf("very many bytes: %d bytes, error %d", len(b), e)
	}
	if b, e := cell.Encode(api.Cell{}); e != api.ErrArg || len(b) != 0 {
		t.Errorf("no kind: %x, error %d", b, e)
	}
}

func TestMakers(t *testing.T) {
	if c := cell.Num(math.MinInt); c.Kind != api.CellNum || c.Num != math.MinInt || c.Text != "" || len(c.List) != 0 {
		t.Errorf("Num = %+v", c)
	}
	if c := cell.Text("a\xff"); c.Kind != api.CellText || c.Num != 0 || c.Text != "a\xff" || len(c.List) != 0 {
		t.Errorf("Text = %+v", c)
	}
	if c := cell.List(); c.Kind != api.CellList || c.Num != 0 || c.Text != "" || len(c.List) != 0 {
		t.Errorf("List of nothing = %+v", c)
	}
	odd := api.Cell{Kind: 7, Num: 1, Text: "a", List: []api.Cell{{Kind: -1}, {}}}
	c := cell.List(odd, cell.Num(2))
	want := api.Cell{Kind: api.CellList, List: []api.Cell{odd, cell.Num(2)}}
	if !cell.Same(c, want) {
		t.Errorf("List = %+v", c)
	}
	if c := cell.List(nest(cell.Num(1), 3000)); !cell.Same(c, nest(cell.Num(1), 3001)) {
		t.Error("List of a deep one is another one")
	}
}

func TestListIsNewMemory(t *testing.T) {
	inner := []api.Cell{cell.Num(1), cell.Num(2)}
	l := []api.Cell{{Kind: api.CellList, List: inner}, {Kind: api.CellList, List: inner}, cell.Num(3)}
	c := cell.List(l[:2]...)
	if len(c.List) != 2 || l[2].Num != 3 {
		t.Fatalf("List = %+v", c)
	}
	l[0], inner[0] = cell.Num(9), cell.Num(9)
	if c.List[0].Kind != api.CellList || c.List[0].List[0].Num != 1 {
		t.Error("the answer and the argument share memory")
	}
	c.List[0].List[1] = cell.Num(8)
	if inner[1].Num != 2 {
		t.Error("the answer and the argument share memory")
	}
	if c.List[1].List[1].Num != 2 {
		t.Error("two lists of the answer share memory")
	}
	_ = append(c.List, cell.Num(7))
	if l[2].Num != 3 {
		t.Error("the answer's room is the argument's")
	}
}

func TestListOfKnotEnds(t *testing.T) {
	k := knot(1)
	c := cell.List(k, k)
	if !cell.Same(c, api.Cell{Kind: api.CellList, List: []api.Cell{k, k}}) {
		t.Error("List is another one")
	}
	k.List[0] = cell.Num(2)
	if c.List[0].List[0].Num != 1 || c.List[0].List[1].List[0].Num != 1 {
		t.Error("the answer and the argument share memory")
	}
	l := make([]api.Cell, 20)
	for i := range l {
		l[i] = api.Cell{Kind: api.CellList, List: l[:i+1]}
	}
	if c := cell.List(l...); len(c.List) != 20 {
		t.Errorf("%d cells", len(c.List))
	}
}

// Ce2

func TestDecodeWrong(t *testing.T) {
	deepest := strings.Repeat("\x03\x01", 11)
	for _, x := range []struct {
		name string
		b    string
		want api.Errno
	}{
		{"nothing", "", api.ErrText},
		{"a kind alone", "\x01", api.ErrText},
		{"kind 0", "\x00\x00", api.ErrText},
		{"kind 4", "\x04\x00", api.ErrText},
		{"kind 255", "\xff\x00", api.ErrText},
		{"a byte more", "\x01\x00\x00", api.ErrText},
		{"a cell more", "\x01\x00\x01\x00", api.ErrText},
		{"a count that is cut", "\x01\x80", api.ErrText},
		{"a needless nought", "\x01\x80\x00", api.ErrText},
		{"a needless nought of a text", "\x02\x81\x00a", api.ErrText},
		{"a needless nought of a list", "\x03\x81\x00\x01\x00", api.ErrText},
		{"the greatest number", "\x01\x80\x80\x80\x80\x80\x80\x80\x20", api.OK},
		{"the least number", "\x01\xff\xff\xff\xff\xff\xff\xff\x1f", api.OK},
		{"too small a number", "\x01\x81\x80\x80\x80\x80\x80\x80\x20", api.ErrText},
		{"too great a number", "\x01\x82\x80\x80\x80\x80\x80\x80\x20", api.ErrText},
		{"a count of nine bytes", "\x01\x80\x80\x80\x80\x80\x80\x80\x80\x01", api.ErrText},
		{"a count of ten bytes", "\x01\x80\x80\x80\x80\x80\x80\x80\x80\x80\x01", api.ErrText},
		{"a count of many bytes", "\x01" + strings.Repeat("\x80", 1000) + "\x01", api.ErrText},
		{"a text that is cut", "\x02\x02a", api.ErrText},
		{"a text of very many", "\x02\xff\xff\xff\xff\xff\xff\xff\x7fa", api.ErrText},
		{"a list that is cut", "\x03\x02\x01\x00", api.ErrText},
		{"a list of very many", "\x03\xff\xff\xff\xff\xff\xff\xff\x7f\x01\x00", api.ErrText},
		{"a wrong one in a list", "\x03\x01\x05\x00", api.ErrText},
		{"depth 12", deepest + "\x01\x00", api.OK},
		{"depth 12, an empty list", deepest + "\x03\x00", api.OK},
		{"depth 13", deepest + "\x03\x01\x01\x00", api.ErrText},
		{"depth 13, an empty list", deepest + "\x03\x01\x03\x00", api.ErrText},
		{"4096 cells", "\x03\xff\x1f" + strings.Repeat("\x01\x00", 4095), api.OK},
		{"4097 cells", "\x03\x80\x20" + strings.Repeat("\x01\x00", 4096), api.ErrText},
		{"4097 cells in lists", "\x03\x02\x03\xff\x0f" + strings.Repeat("\x01\x00", 2047) + "\x03\xff\x0f" + strings.Repeat("\x01\x00", 2047), api.ErrText},
		{"4096 cells, the last behind a list", "\x03\x02\x03\xfd\x1f" + strings.Repeat("\x01\x00", 4093) + "\x01\x00", api.OK},
		{"4097 cells, the last behind a list", "\x03\x02\x03\xfe\x1f" + strings.Repeat("\x01\x00", 4094) + "\x01\x00", api.ErrText},
		{"65536 bytes", "\x02\xfc\xff\x03" + strings.Repeat("a", 65532), api.OK},
		{"65537 bytes", "\x02\xfd\xff\x03" + strings.Repeat("a", 65533), api.ErrLong},
		{"65536 bytes of no cell", strings.Repeat("a", 65536), api.ErrText},
		{"65537 bytes of no cell", strings.Repeat("a", 65537), api.ErrLong},
	} {
		c, e := cell.Decode([]byte(x.b))
		if e != x.want {
			t.Errorf("%s: error %d, not %d", x.name, e, x.want)
		}
		if e != api.OK && !cell.Same(c, api.Cell{}) {
			t.Errorf("%s: %+v beside an error", x.name, c)
		}
	}
}

func TestDecodeIsNewMemory(t *testing.T) {
	b := []byte("\x03\x02\x02\x01a\x03\x00 room")
	kept := bytes.Clone(b)
	c, e := cell.Decode(b[:7])
	if e != api.OK || !bytes.Equal(b, kept) {
		t.Fatalf("error %d, bytes %q", e, b)
	}
	clear(b)
	if !cell.Same(c, cell.List(cell.Text("a"), cell.List())) {
		t.Errorf("Decode = %+v, once the bytes are others", c)
	}
}

func TestSame(t *testing.T) {
	unlike := []api.Cell{
		{},
		{Kind: 9},
		cell.Num(0),
		cell.Num(1),
		cell.Text(""),
		cell.Text("a"),
		cell.Text("b"),
		cell.List(),
		cell.List(cell.Num(1)),
		cell.List(cell.Num(2)),
		cell.List(cell.Num(1), cell.Num(2)),
		cell.List(cell.Num(2), cell.Num(1)),
		cell.List(cell.List(cell.Num(1))),
		cell.List(cell.List(cell.Num(1)), cell.Num(3)),
		{Kind: api.CellNum, Num: 1, Text: "a"},
		{Kind: api.CellNum, Num: 1, List: []api.Cell{cell.Num(1)}},
		{Kind: api.CellNum, Num: 1, List: []api.Cell{cell.Num(2)}},
		{Kind: api.CellList, Num: 1},
		many(5000),
		many(5001),
		nest(cell.Num(1), 100),
		nest(cell.Num(2), 100),
		nest(cell.Num(1), 101),
		knot(1),
		knot(2),
	}
	for i, a := range unlike {
		for j, b := range unlike {
			if cell.Same(a, b) != (i == j) {
				t.Errorf("Same of %d and %d is %t", i, j, i != j)
			}
		}
	}
	if !cell.Same(api.Cell{Kind: api.CellList}, api.Cell{Kind: api.CellList, List: []api.Cell{}}) {
		t.Error("an empty list is not as none")
	}
}

func TestSameEnds(t *testing.T) {
	if !cell.Same(knot(1), knot(1)) {
		t.Error("two knots are not alike")
	}
	if cell.Same(knot(1), nest(cell.Num(1), 3)) {
		t.Error("a knot is like a list")
	}
	if !cell.Same(braid(cell.Num(1), 1000, 11), braid(cell.Num(1), 1000, 11)) {
		t.Error("two braids are not alike")
	}
	if cell.Same(braid(cell.Num(1), 1000, 11), braid(cell.Num(2), 1000, 11)) {
		t.Error("two braids are alike")
	}
}

// A small stack stands for cells that are deeper than any stack.
func TestDeeperThanTheStack(t *testing.T) {
	defer debug.SetMaxStack(debug.SetMaxStack(1 << 20))
	const deep = 200000
	one, other := nest(cell.Num(1), deep), nest(cell.Num(2), deep)
	if !cell.Same(one, nest(cell.Num(1), deep)) {
		t.Error("two very deep ones are not alike")
	}
	if cell.Same(one, other) {
		t.Error("two very deep ones are alike")
	}
	if !cell.Same(cell.List(one), nest(cell.Num(1), deep+1)) {
		t.Error("List of a very deep one is another one")
	}
	if e := cell.Check(one); e != api.ErrDeep {
		t.Errorf("Check of a very deep one: %d", e)
	}
}

// Ce3

// samples is cells that may be, one of each shape, and their likes.
func samples() []api.Cell {
	l := []api.Cell{cell.List(), cell.Text(""), many(4095), nest(cell.List(), 11)}
	for _, n := range []int{0, 1, -1, 63, 64, -64, -65, 127, 128, 1 << 20, -1 << 20, 1<<53 - 1, 1 << 53, 1 - 1<<53, -1 << 53} {
		l = append(l, cell.Num(n), cell.List(cell.Num(n)), cell.List(cell.Num(n), cell.Num(n)))
	}
	for _, n := range []int{1, 2, 127, 128, 16383, 16384, 65528} {
		l = append(l, cell.Text(strings.Repeat("\x00", n)), cell.Text(strings.Repeat("z", n)))
	}
	for _, c := range l[4:14] {
		l = append(l, cell.List(cell.Text("a"), c), cell.List(c, cell.Text("a")), nest(c, 9))
	}
	return append(l, cell.List(cell.Text("a")))
}

func TestDecodeOfEncode(t *testing.T) {
	for _, c := range samples() {
		b, e := cell.Encode(c)
		if e != api.OK {
			t.Fatalf("Encode: error %d", e)
		}
		d, e := cell.Decode(b)
		if e != api.OK || !cell.Same(c, d) {
			t.Errorf("Decode of %.20x is another cell, error %d", b, e)
		}
	}
}

func TestNoneIsTheBeginningOfAnother(t *testing.T) {
	l := samples()
	for _, a := range l {
		x, e := cell.Encode(a)
		if e != api.OK {
			t.Fatalf("Encode: error %d", e)
		}
		for _, b := range l {
			if y, _ := cell.Encode(b); bytes.HasPrefix(y, x) != cell.Same(a, b) {
				t.Errorf("%.20x and %.20x", x, y)
			}
		}
	}
}

// Of all short texts of some bytes, those that are read are what is written, and no beginning of them is read.
func TestShortBytes(t *testing.T) {
	signs := []byte{0, 1, 2, 3, 4, 0x7f, 0x80, 0x81, 0xff}
	level := [][]byte{{}}
	for range 5 {
		var next [][]byte
		for _, b := range level {
			for _, s := range signs {
				next = append(next, append(bytes.Clone(b), s))
			}
		}
		level = next
		for _, b := range level {
			checkShort(t, b)
		}
	}
}

func checkShort(t *testing.T, b []byte) {
	c, e := cell.Decode(b)
	if e == api.ErrText {
		return
	}
	again, f := cell.Encode(c)
	if e != api.OK || f != api.OK || !bytes.Equal(again, b) {
		t.Errorf("Encode of Decode of %x = %x, errors %d and %d", b, again, e, f)
	}
	for i := range b {
		if _, e := cell.Decode(b[:i]); e != api.ErrText {
			t.Errorf("the first %d of %x: error %d", i, b, e)
		}
	}
}
