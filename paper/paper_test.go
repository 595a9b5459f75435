package paper_test

import (
	"fmt"
	"math"
	"slices"
	"strings"
	"testing"

	"tailrace/api"
	"tailrace/cell"
	"tailrace/paper"
	"tailrace/rank"
)

// doc is a document of numbers 1, 2, .. at paths, as they come.
func doc(paths ...string) api.Doc {
	var d api.Doc
	for i, p := range paths {
		d = append(d, api.Field{Path: p, Val: rank.Num(i + 1)})
	}
	return d
}

// many is a document of n fields, p10, p11, and so on.
func many(n int) api.Doc {
	var d api.Doc
	for i := range n {
		d = append(d, api.Field{Path: fmt.Sprintf("p%d", 10+i), Val: rank.Num(i)})
	}
	return d
}

// values may be, one of each kind and edge.
func values() []api.Value {
	return []api.Value{
		rank.Num(0), rank.Num(-7), rank.Num(1 << 53), rank.Num(-1 << 53),
		rank.Text(""), rank.Text("a"), rank.Text("\x00\xff."), rank.Text(strings.Repeat("x", 256)),
		rank.Point(0, 0), rank.Point(3, -4), rank.Point(1<<20, -1<<20), rank.Point(-1<<20, 1<<20),
	}
}

// oddValues may not be.
func oddValues() []api.Value {
	return []api.Value{
		{}, {Kind: 4}, {Kind: -1},
		rank.Num(1<<53 + 1), rank.Num(-1<<53 - 1), rank.Num(math.MinInt),
		rank.Text(strings.Repeat("x", 257)),
		rank.Point(1<<20+1, 0), rank.Point(0, -1<<20-1),
		{Kind: api.ValNum, Text: "a"},
		{Kind: api.ValText, Num: 1},
		{Kind: api.ValPoint, Num: 1},
		{Kind: api.ValNum, Point: api.Point{Im: 1}},
	}
}

// oddPaths are none.
func oddPaths() []string {
	return []string{
		"", ".", "..", "a.", ".a", "a..b", "a.b.", "A", "aB", "a b", " a", "a ", "a-b", "a_b", "a/b", "a:b",
		"`", "{", "@", "é", "a\x00", "a\n", "\xff", strings.Repeat("a", 65), strings.Repeat("a.", 32) + "b",
	}
}

// docs may be.
func docs() []api.Doc {
	l := []api.Doc{nil, {}, doc("a"), doc("a", "a.b", "ab"), doc("0", "9", "a", "z"), many(15), many(16), doc(strings.Repeat("a", 64))}
	for _, v := range values() {
		l = append(l, api.Doc{{Path: "x", Val: v}}, api.Doc{{Path: "a", Val: v}, {Path: "a.b", Val: v}})
	}
	return l
}

// oddDocs may not be.
func oddDocs() []api.Doc {
	l := []api.Doc{
		many(17), many(40), doc("b", "a"), doc("a", "a"), doc("a", "b", "b"), doc("a", "b", "a"), doc("ab", "a.b"),
		doc("a.b", "a"), doc("a", "c", "b"),
	}
	for _, p := range oddPaths() {
		l = append(l, doc(p), api.Doc{{Path: p, Val: rank.Text("t")}, {Path: "zz", Val: rank.Num(1)}})
	}
	for _, v := range oddValues() {
		l = append(l, api.Doc{{Path: "a", Val: v}}, api.Doc{{Path: "a", Val: rank.Num(1)}, {Path: "b", Val: v}})
	}
	return l
}

// want holds a document with an error against what it must be.
func want(t *testing.T, name string, got api.Doc, e api.Errno, d api.Doc, f api.Errno) {
	t.Helper()
	if !slices.Equal(got, d) || e != f {
		t.Errorf("%s = %v, %d; want %v, %d", name, got, e, d, f)
	}
}

// Pa1

func TestPath(t *testing.T) {
	for _, p := range []string{
		"a", "z", "0", "9", "ab", "a.b", "a.b.c", "0.1", "name.first", "a1.b2", "1a",
		strings.Repeat("a", 64), strings.Repeat("a.", 31) + "ab", strings.Repeat("a.", 31) + "b",
	} {
		if !paper.Path(p) {
			t.Errorf("%q is no path", p)
		}
	}
	for _, p := range oddPaths() {
		if paper.Path(p) {
			t.Errorf("%q is a path", p)
		}
	}
}

func TestPathOfEachByte(t *testing.T) {
	const signs = "abcdefghijklmnopqrstuvwxyz0123456789"
	for n := range 256 {
		b := string([]byte{byte(n)})
		if is := strings.Contains(signs, b); paper.Path(b) != is || paper.Path(b+"a") != is || paper.Path("a.b"+b) != is {
			t.Errorf("%q alone, first or last: %t, %t, %t", b, paper.Path(b), paper.Path(b+"a"), paper.Path("a.b"+b))
		}
		if is := strings.Contains(signs+".", b); paper.Path("a"+b+"c") != is {
			t.Errorf("%q between: %t", b, paper.Path("a"+b+"c"))
		}
	}
}

func TestKey(t *testing.T) {
	for _, k := range []string{"a", ".", "\x00", "\xff\xfe", "A b", strings.Repeat("a", 64), strings.Repeat("\x00", 64)} {
		if !paper.Key(k) {
			t.Errorf("%q is no key", k)
		}
	}
	for _, k := range []string{"", strings.Repeat("a", 65), strings.Repeat("a", 1000)} {
		if paper.Key(k) {
			t.Errorf("%q is a key", k)
		}
	}
}

func TestCheck(t *testing.T) {
	for _, d := range docs() {
		if e := paper.Check(d); e != api.OK {
			t.Errorf("Check(%v) = %d", d, e)
		}
	}
	for _, d := range oddDocs() {
		if e := paper.Check(d); e != api.ErrArg {
			t.Errorf("Check(%v) = %d", d, e)
		}
	}
}

func TestGet(t *testing.T) {
	odd := api.Value{Kind: 9, Text: "x"}
	for _, x := range []struct {
		d    api.Doc
		path string
		want api.Value
		has  bool
	}{
		{doc("a", "a.b", "ab"), "a", rank.Num(1), true},
		{doc("a", "a.b", "ab"), "a.b", rank.Num(2), true},
		{doc("a", "a.b", "ab"), "ab", rank.Num(3), true},
		{doc("a", "a.b", "ab"), "b", api.Value{}, false},
		{doc("a.b"), "a", api.Value{}, false},
		{doc("a"), "", api.Value{}, false},
		{doc("a"), "A", api.Value{}, false},
		{nil, "a", api.Value{}, false},
		{nil, "", api.Value{}, false},
		{doc("b", "a", "b"), "b", rank.Num(1), true},
		{doc("c", "b", "a"), "a", rank.Num(3), true},
		{doc("c", "b", "a"), "c", rank.Num(1), true},
		{doc("", "a"), "", rank.Num(1), true},
		{many(40), "p49", rank.Num(39), true},
		{api.Doc{{Path: "a", Val: odd}}, "a", odd, true},
	} {
		if v, has := paper.Get(x.d, x.path); v != x.want || has != x.has {
			t.Errorf("Get(%v, %q) = %v, %t", x.d, x.path, v, has)
		}
	}
}

func TestSame(t *testing.T) {
	unlike := append(oddDocs(), doc("a"), doc("b"), doc("a", "b"), api.Doc{{Path: "a", Val: rank.Num(2)}}, nil,
		api.Doc{{Path: "a", Val: rank.Text("1")}}, api.Doc{{Path: "a", Val: rank.Point(1, 0)}},
		api.Doc{{Path: "a", Val: rank.Point(0, 1)}}, many(16))
	for i, a := range unlike {
		for j, b := range unlike {
			if paper.Same(a, slices.Clone(b)) != (i == j) {
				t.Errorf("Same(%v, %v) = %t", a, b, i != j)
			}
		}
	}
	if !paper.Same(nil, api.Doc{}) || !paper.Same(api.Doc{}, nil) {
		t.Error("an empty document is not as none")
	}
}

func TestOddDocsAreRefused(t *testing.T) {
	for _, d := range oddDocs() {
		got, e := paper.Set(d, "a", rank.Num(1))
		want(t, "Set", got, e, nil, api.ErrArg)
		got, e = paper.Drop(d, "a")
		want(t, "Drop", got, e, nil, api.ErrArg)
		got, e = paper.Under(d, "a")
		want(t, "Under", got, e, nil, api.ErrArg)
		if c, e := paper.Cell(d); e != api.ErrArg || !cell.Same(c, api.Cell{}) {
			t.Errorf("Cell(%v) = %v, %d", d, c, e)
		}
	}
}

// Pa2

func TestSet(t *testing.T) {
	n := rank.Num(9)
	for _, x := range []struct {
		d    api.Doc
		path string
		want api.Doc
	}{
		{nil, "a", api.Doc{{Path: "a", Val: n}}},
		{doc("b", "d"), "a", api.Doc{{Path: "a", Val: n}, {Path: "b", Val: rank.Num(1)}, {Path: "d", Val: rank.Num(2)}}},
		{doc("b", "d"), "b", api.Doc{{Path: "b", Val: n}, {Path: "d", Val: rank.Num(2)}}},
		{doc("b", "d"), "c", api.Doc{{Path: "b", Val: rank.Num(1)}, {Path: "c", Val: n}, {Path: "d", Val: rank.Num(2)}}},
		{doc("b", "d"), "d", api.Doc{{Path: "b", Val: rank.Num(1)}, {Path: "d", Val: n}}},
		{doc("b", "d"), "e", api.Doc{{Path: "b", Val: rank.Num(1)}, {Path: "d", Val: rank.Num(2)}, {Path: "e", Val: n}}},
		{doc("a", "ab"), "a.b", api.Doc{{Path: "a", Val: rank.Num(1)}, {Path: "a.b", Val: n}, {Path: "ab", Val: rank.Num(2)}}},
		{doc("a1"), "a.b", api.Doc{{Path: "a.b", Val: n}, {Path: "a1", Val: rank.Num(1)}}},
	} {
		got, e := paper.Set(x.d, x.path, n)
		want(t, "Set "+x.path, got, e, x.want, api.OK)
	}
}

func TestSetWrong(t *testing.T) {
	for _, d := range []api.Doc{nil, doc("a", "b"), many(16)} {
		for _, p := range oddPaths() {
			got, e := paper.Set(d, p, rank.Num(1))
			want(t, "Set at "+p, got, e, nil, api.ErrArg)
		}
		for _, v := range oddValues() {
			got, e := paper.Set(d, "a", v)
			want(t, "Set of an odd value", got, e, nil, api.ErrArg)
		}
	}
}

func TestSetFull(t *testing.T) {
	got, e := paper.Set(many(15), "q", rank.Num(15))
	want(t, "Set of the sixteenth", got, e, append(many(15), api.Field{Path: "q", Val: rank.Num(15)}), api.OK)
	for _, p := range []string{"a", "p100", "q"} {
		got, e := paper.Set(many(16), p, rank.Num(1))
		want(t, "Set of the seventeenth", got, e, nil, api.ErrFull)
	}
	for i, f := range many(16) {
		d := many(16)
		d[i].Val = rank.Text("new")
		got, e := paper.Set(many(16), f.Path, rank.Text("new"))
		want(t, "Set of one of sixteen", got, e, d, api.OK)
	}
}

func TestDrop(t *testing.T) {
	d := doc("a", "a.b", "ab")
	for _, x := range []struct {
		d    api.Doc
		path string
		want api.Doc
	}{
		{d, "a", d[1:]},
		{d, "a.b", api.Doc{d[0], d[2]}},
		{d, "ab", d[:2]},
		{d, "b", d},
		{d, "a.", d},
		{d, "", d},
		{d, "A", d},
		{d, strings.Repeat("a", 100), d},
		{doc("a"), "a", nil},
		{nil, "a", nil},
		{nil, "", nil},
		{many(16), "p25", many(15)},
	} {
		got, e := paper.Drop(x.d, x.path)
		want(t, "Drop "+x.path, got, e, x.want, api.OK)
	}
}

func TestUnder(t *testing.T) {
	d := doc("a", "a.b", "a.b.c", "a.bc", "a0", "ab", "b.a")
	for _, x := range []struct {
		path string
		want api.Doc
	}{
		{"a", d[:4]},
		{"a.b", d[1:3]},
		{"a.b.c", d[2:3]},
		{"a.b.c.d", nil},
		{"a.bc", d[3:4]},
		{"ab", d[5:6]},
		{"b", d[6:]},
		{"b.a", d[6:]},
		{"c", nil},
		{"", nil},
		{".", nil},
		{"a.", nil},
		{"a.b.", nil},
		{"A", nil},
	} {
		got, e := paper.Under(d, x.path)
		want(t, "Under "+x.path, got, e, x.want, api.OK)
	}
	got, e := paper.Under(nil, "a")
	want(t, "Under of nothing", got, e, nil, api.OK)
	got, e = paper.Under(many(16), "p20")
	want(t, "Under of sixteen", got, e, many(16)[10:11], api.OK)
}

// Pa3

func TestCell(t *testing.T) {
	for _, x := range []struct {
		d    api.Doc
		want api.Cell
	}{
		{nil, cell.List()},
		{api.Doc{}, cell.List()},
		{doc("a"), cell.List(cell.List(cell.Text("a"), cell.Num(1)))},
		{
			api.Doc{{Path: "a", Val: rank.Num(-5)}, {Path: "a.b", Val: rank.Text("a")}, {Path: "c", Val: rank.Point(3, -4)}},
			cell.List(
				cell.List(cell.Text("a"), cell.Num(-5)),
				cell.List(cell.Text("a.b"), cell.Text("a")),
				cell.List(cell.Text("c"), cell.List(cell.Num(3), cell.Num(-4))),
			),
		},
	} {
		c, e := paper.Cell(x.d)
		if e != api.OK || !cell.Same(c, x.want) {
			t.Errorf("Cell(%v) = %v, %d", x.d, c, e)
		}
		d, e := paper.Of(x.want)
		want(t, "Of", d, e, x.d, api.OK)
	}
	for _, d := range docs() {
		c, _ := paper.Cell(d)
		if e := cell.Check(c); e != api.OK {
			t.Errorf("Check of Cell(%v) = %d", d, e)
		}
	}
}

// field is the cell of a document of one field, c at path.
func field(path string, c api.Cell) api.Cell {
	return cell.List(cell.List(cell.Text(path), c))
}

// spoilt is all that a cell becomes by turning one part of one cell in it.
func spoilt(c api.Cell) []api.Cell {
	var l []api.Cell
	for kind := range 5 {
		if kind != c.Kind {
			d := c
			d.Kind = kind
			l = append(l, d)
		}
	}
	if c.Kind != api.CellNum {
		d := c
		d.Num = 1
		l = append(l, d)
	}
	if c.Kind != api.CellText {
		d := c
		d.Text = "x"
		l = append(l, d)
	}
	if c.Kind != api.CellList {
		d := c
		d.List = []api.Cell{cell.Num(1), cell.Num(2)}
		l = append(l, d)
	}
	for i := range c.List {
		for _, x := range spoilt(c.List[i]) {
			d := c
			d.List = slices.Clone(c.List)
			d.List[i] = x
			l = append(l, d)
		}
	}
	return l
}

// A part that a cell's kind may not have, or another kind, makes it no document's.
func TestOfSpoilt(t *testing.T) {
	d := api.Doc{{Path: "a", Val: rank.Num(5)}, {Path: "b", Val: rank.Text("t")}, {Path: "c", Val: rank.Point(0, 0)}}
	c, _ := paper.Cell(d)
	for _, x := range spoilt(c) {
		got, e := paper.Of(x)
		want(t, fmt.Sprintf("Of(%v)", x), got, e, nil, api.ErrText)
	}
}

func TestOfWrong(t *testing.T) {
	a := cell.List(cell.Text("a"), cell.Num(1))
	b := cell.List(cell.Text("b"), cell.Num(2))
	l := []api.Cell{
		{}, cell.Num(0), cell.Num(1), cell.Text(""), cell.Text("a"), {Kind: 7},
		cell.List(cell.Num(1)),
		cell.List(cell.Text("a")),
		cell.List(cell.List()),
		cell.List(cell.Text("a"), cell.Num(1)),
		cell.List(cell.List(cell.Text("a"))),
		cell.List(cell.List(cell.Text("a"), cell.Num(1), cell.Num(2))),
		cell.List(cell.List(cell.Num(1), cell.Text("a"))),
		cell.List(cell.List(cell.List(cell.Text("a")), cell.Num(1))),
		cell.List(b, a),
		cell.List(a, a),
		cell.List(a, b, b),
		cell.List(a, b, cell.List()),
		cell.List(a, b, cell.Num(1)),
		field("a", cell.List()),
		field("a", cell.List(cell.Num(1))),
		field("a", cell.List(cell.Num(1), cell.Num(2), cell.Num(3))),
		field("a", cell.List(cell.Num(1), cell.Text("2"))),
		field("a", cell.List(cell.Text("1"), cell.Num(2))),
		field("a", cell.List(cell.List(), cell.Num(2))),
		field("a", cell.List(cell.Num(1<<20+1), cell.Num(0))),
		field("a", cell.List(cell.Num(0), cell.Num(-1<<20-1))),
		field("a", cell.Num(1<<53+1)),
		field("a", cell.Num(math.MinInt)),
		field("a", cell.Text(strings.Repeat("x", 257))),
		field("a", api.Cell{}),
		field("a", api.Cell{Kind: 4, List: []api.Cell{cell.Num(1), cell.Num(2)}}),
	}
	for _, p := range oddPaths() {
		l = append(l, field(p, cell.Num(1)))
	}
	for _, c := range l {
		d, e := paper.Of(c)
		want(t, fmt.Sprintf("Of(%v)", c), d, e, nil, api.ErrText)
	}
}

func TestOfFields(t *testing.T) {
	for n := range 40 {
		l := make([]api.Cell, n)
		for i, f := range many(n) {
			l[i] = cell.List(cell.Text(f.Path), cell.Num(f.Val.Num))
		}
		d, e := paper.Of(cell.List(l...))
		if n <= 16 {
			want(t, "Of", d, e, many(n), api.OK)
			continue
		}
		want(t, "Of", d, e, nil, api.ErrText)
	}
	huge := make([]api.Cell, 1<<16)
	d, e := paper.Of(api.Cell{Kind: api.CellList, List: huge})
	want(t, "Of a huge one", d, e, nil, api.ErrText)
}

// What lies within itself has no end; Of ends all the same.
func TestOfKnot(t *testing.T) {
	for n := range 4 {
		l := make([]api.Cell, n)
		for i := range l {
			l[i] = api.Cell{Kind: api.CellList, List: l}
		}
		d, e := paper.Of(api.Cell{Kind: api.CellList, List: l})
		f := api.ErrText
		if n == 0 {
			f = api.OK
		}
		want(t, "Of a knot", d, e, nil, f)
		if n > 0 {
			d, e = paper.Of(field("a", api.Cell{Kind: api.CellList, List: l}))
			want(t, "Of a knot within", d, e, nil, api.ErrText)
		}
	}
}

// Pa4

// What is set is got, and nothing else turned, whatever is set and dropped, in whichever order.
func TestSetIsGot(t *testing.T) {
	paths := []string{"a", "a.b", "a.b.c", "a0", "ab", "b", "0", "z.z"}
	vals := values()
	for seed := range 40 {
		var d api.Doc
		model := map[string]api.Value{}
		for step := range 60 {
			n := (seed*7 + step*step*5 + step*3) % 97
			p, v := paths[n%len(paths)], vals[(n+step)%len(vals)]
			var e api.Errno
			if n%3 == 0 {
				d, e = paper.Drop(d, p)
				delete(model, p)
			} else {
				d, e = paper.Set(d, p, v)
				model[p] = v
			}
			if e != api.OK || paper.Check(d) != api.OK || len(d) != len(model) {
				t.Fatalf("%v, error %d", d, e)
			}
			for _, p := range paths {
				v, has := paper.Get(d, p)
				if w, ok := model[p]; v != w || has != ok {
					t.Fatalf("Get(%v, %q) = %v, %t", d, p, v, has)
				}
			}
		}
	}
}

func TestOfOfCell(t *testing.T) {
	for _, d := range docs() {
		c, e := paper.Cell(d)
		got, f := paper.Of(c)
		if e != api.OK || f != api.OK || !paper.Same(got, d) {
			t.Errorf("Of of Cell(%v) = %v, %d, %d", d, got, e, f)
		}
		b, _ := cell.Encode(c)
		c, _ = cell.Decode(b)
		got, e = paper.Of(c)
		want(t, "Of what was written", got, e, d, api.OK)
	}
}

// R3

// room is a document with something in the room behind its end.
func room() (api.Doc, api.Doc) {
	whole := doc("b", "d", "f", "x", "y", "z")
	return whole[:3], whole
}

func TestArgumentsStay(t *testing.T) {
	odd := rank.Text("turned")
	for name, call := range map[string]func(api.Doc) api.Doc{
		"Set ahead":   func(d api.Doc) api.Doc { x, _ := paper.Set(d, "a", odd); return x },
		"Set between": func(d api.Doc) api.Doc { x, _ := paper.Set(d, "c", odd); return x },
		"Set there":   func(d api.Doc) api.Doc { x, _ := paper.Set(d, "d", odd); return x },
		"Set behind":  func(d api.Doc) api.Doc { x, _ := paper.Set(d, "g", odd); return x },
		"Drop first":  func(d api.Doc) api.Doc { x, _ := paper.Drop(d, "b"); return x },
		"Drop last":   func(d api.Doc) api.Doc { x, _ := paper.Drop(d, "f"); return x },
		"Drop none":   func(d api.Doc) api.Doc { x, _ := paper.Drop(d, "c"); return x },
		"Under":       func(d api.Doc) api.Doc { x, _ := paper.Under(d, "b"); return x },
	} {
		d, whole := room()
		got := call(d)
		for i := range got {
			got[i].Val = odd
		}
		spare := got[:cap(got)]
		for i := range spare {
			spare[i] = api.Field{Path: "spare", Val: odd}
		}
		if _, as := room(); !slices.Equal(whole, as) {
			t.Errorf("%s: the document is %v now", name, whole)
		}
	}
}

func TestCellsAreNewMemory(t *testing.T) {
	d := api.Doc{{Path: "a", Val: rank.Point(1, 2)}, {Path: "b", Val: rank.Point(1, 2)}}
	c, _ := paper.Cell(d)
	again, _ := paper.Cell(d)
	c.List[0].List[1].List[0] = cell.Num(9)
	c.List[0].List[0] = cell.Text("z")
	if c.List[1].List[1].List[0].Num != 1 || c.List[1].List[0].Text != "b" || again.List[0].List[0].Text != "a" {
		t.Error("two lists of answers share memory")
	}
	d[1].Val = rank.Num(5)
	if c.List[1].List[1].Kind != api.CellList {
		t.Error("the cell and the document share memory")
	}
	got, _ := paper.Of(again)
	again.List[0] = cell.Num(1)
	if got[0].Val != rank.Point(1, 2) {
		t.Error("the document and the cell share memory")
	}
}
