package expr_test

import (
	"fmt"
	"math/big"
	"slices"
	"strings"
	"testing"

	"tailrace/api"
	"tailrace/expr"
	"tailrace/rank"
)

const (
	mostNum  = 1 << 53
	mostPart = 1 << 20
)

// doc is a document of a value at v, or of two at v and w.
func doc(l ...api.Value) api.Doc {
	var d api.Doc
	for i, v := range l {
		d = append(d, api.Field{Path: string(rune('v' + i)), Val: v})
	}
	return d
}

// sample is a document with values of all kinds.
func sample() api.Doc {
	return api.Doc{
		{Path: "1.2", Val: rank.Num(12)}, {Path: "a", Val: rank.Num(3)}, {Path: "n", Val: rank.Num(-4)}, {Path: "norm", Val: rank.Text("N")},
		{Path: "p", Val: rank.Point(1, 2)}, {Path: "q", Val: rank.Point(-3, 5)}, {Path: "t", Val: rank.Text("Ab")}, {Path: "u", Val: rank.Text("")},
		{Path: "x.y", Val: rank.Text("xY")}, {Path: "zz.9", Val: rank.Text("Zz")},
	}
}

// has holds a value against what it must be; the zero one: there is none.
func has(t *testing.T, name string, v api.Value, ok bool, w api.Value) {
	t.Helper()
	if v != w || ok != (w.Kind != 0) {
		t.Errorf("%s = %v, %t; want %v", name, v, ok, w)
	}
}

// Ex2: Eval

func TestEval(t *testing.T) {
	none := api.Value{}
	for _, x := range []struct {
		s string
		v api.Value
	}{
		{"a", rank.Num(3)}, {"p", rank.Point(1, 2)}, {"t", rank.Text("Ab")}, {"u", rank.Text("")}, {"x.y", rank.Text("xY")}, {"1.2", rank.Num(12)}, {"norm", rank.Text("N")},
		{"b", none}, {"x", none}, {"y", none}, {"low", none},
		{"0", rank.Num(0)}, {"999999999999999", rank.Num(1e15 - 1)},
		{"a+n", rank.Num(-1)}, {"a*n", rank.Num(-12)}, {"a*(a+1)", rank.Num(12)}, {"a+a*a", rank.Num(12)}, {"n*n*n", rank.Num(-64)},
		{"p+q", rank.Point(-2, 7)}, {"p*q", rank.Point(-13, -1)}, {"p*p", rank.Point(-3, 4)}, {"p*a", rank.Point(3, 6)}, {"a*p", rank.Point(3, 6)}, {"n*q", rank.Point(12, -20)}, {"0*p", rank.Point(0, 0)},
		{"t+t", rank.Text("AbAb")}, {"t+x.y", rank.Text("AbxY")}, {"x.y+t", rank.Text("xYAb")}, {"u+t+u", rank.Text("Ab")}, {"u+u", rank.Text("")},
		{"norm(p)", rank.Num(5)}, {"norm(q)", rank.Num(34)}, {"norm(p*p)+1", rank.Num(26)}, {"conj(p)", rank.Point(1, -2)}, {"turn(p)", rank.Point(-2, 1)}, {"turn(turn(turn(turn(p))))", rank.Point(1, 2)}, {"turn(p)*a", rank.Point(-6, 3)}, {"p*conj(p)", rank.Point(5, 0)},
		{"low(t)", rank.Text("ab")}, {"low(u)", rank.Text("")}, {"head(t)", rank.Text("A")}, {"head(u)", rank.Text("")}, {"low(head(x.y+t))", rank.Text("x")}, {"head(low(t))+norm", rank.Text("aN")}, {"low(t)+t", rank.Text("abAb")},
		{"a+p", none}, {"p+a", none}, {"a+t", none}, {"t+a", none}, {"p+t", none}, {"t+p", none}, {"t*t", none}, {"t*a", none}, {"a*t", none}, {"p*t", none}, {"t*p", none}, {"u*0", none},
		{"norm(a)", none}, {"norm(t)", none}, {"conj(a)", none}, {"conj(t)", none}, {"turn(a)", none}, {"turn(t)", none}, {"low(a)", none}, {"low(p)", none}, {"head(a)", none}, {"head(p)", none}, {"norm(0)", none}, {"low(0)", none},
		{"a+b", none}, {"b+a", none}, {"b*a", none}, {"a*b", none}, {"0*b", none}, {"norm(b)", none}, {"low(b)", none}, {"norm(norm(p))", none}, {"a+norm(a)", none}, {"norm(a)*a", none},
	} {
		v, ok := expr.Eval(must(t, x.s), sample())
		has(t, x.s, v, ok, x.v)
	}
	for _, s := range []string{"a", "a+1", "norm(p)"} {
		v, ok := expr.Eval(must(t, s), nil)
		has(t, s+" of nothing", v, ok, none)
	}
	v, ok := expr.Eval(num(5), nil)
	has(t, "5 of nothing", v, ok, rank.Num(5))
}

// Sums and products of numbers, held against ones that know no bounds.
func TestEvalOfNumbers(t *testing.T) {
	l := []int{0, 1, 2, 3, 7, 1024, 1 << 26, 1<<26 + 1, 1 << 27, 1<<27 + 1, 94906265, 94906266, 1 << 32, 1 << 52, 1<<52 + 1, mostNum - 1, mostNum}
	for _, n := range slices.Clone(l) {
		l = append(l, -n)
	}
	most := big.NewInt(mostNum)
	fits := func(b *big.Int) api.Value {
		if b.CmpAbs(most) > 0 {
			return api.Value{}
		}
		return rank.Num(int(b.Int64()))
	}
	for _, a := range l {
		for _, b := range l {
			d := doc(rank.Num(a), rank.Num(b))
			x, y := big.NewInt(int64(a)), big.NewInt(int64(b))
			v, ok := expr.Eval(sum(path("v"), path("w")), d)
			has(t, fmt.Sprintf("%d + %d", a, b), v, ok, fits(new(big.Int).Add(x, y)))
			v, ok = expr.Eval(mul(path("v"), path("w")), d)
			has(t, fmt.Sprintf("%d * %d", a, b), v, ok, fits(new(big.Int).Mul(x, y)))
		}
	}
}

// Sums and products of points, and of a number and a point, by whole numbers.
func TestEvalOfPoints(t *testing.T) {
	parts := []int{0, 1, -1, 3, -1023, 1024, 1 << 19, -1 << 19, mostPart - 1, mostPart, -mostPart}
	var points []api.Point
	for _, re := range parts {
		for _, im := range parts {
			points = append(points, api.Point{Re: re, Im: im})
		}
	}
	fits := func(re, im int) api.Value {
		if max(re, -re, im, -im) > mostPart {
			return api.Value{}
		}
		return rank.Point(re, im)
	}
	for _, a := range points {
		d := doc(rank.Point(a.Re, a.Im))
		v, ok := expr.Eval(call("norm", path("v")), d)
		has(t, "norm", v, ok, rank.Num(a.Re*a.Re+a.Im*a.Im))
		v, ok = expr.Eval(call("conj", path("v")), d)
		has(t, "conj", v, ok, rank.Point(a.Re, -a.Im))
		v, ok = expr.Eval(call("turn", path("v")), d)
		has(t, "turn", v, ok, rank.Point(-a.Im, a.Re))
		for _, b := range points {
			d = doc(rank.Point(a.Re, a.Im), rank.Point(b.Re, b.Im))
			v, ok = expr.Eval(sum(path("v"), path("w")), d)
			has(t, fmt.Sprintf("%v + %v", a, b), v, ok, fits(a.Re+b.Re, a.Im+b.Im))
			v, ok = expr.Eval(mul(path("v"), path("w")), d)
			has(t, fmt.Sprintf("%v * %v", a, b), v, ok, fits(a.Re*b.Re-a.Im*b.Im, a.Re*b.Im+a.Im*b.Re))
		}
		for _, n := range append(parts, mostPart+1, -mostPart-1, mostNum, -mostNum) {
			w := fits(n*a.Re, n*a.Im)
			if max(n, -n) > mostPart {
				w = api.Value{}
			}
			v, ok = expr.Eval(mul(path("v"), path("w")), doc(rank.Point(a.Re, a.Im), rank.Num(n)))
			has(t, fmt.Sprintf("%v * %d", a, n), v, ok, w)
			v, ok = expr.Eval(mul(path("v"), path("w")), doc(rank.Num(n), rank.Point(a.Re, a.Im)))
			has(t, fmt.Sprintf("%d * %v", n, a), v, ok, w)
		}
	}
}

func TestEvalOfTexts(t *testing.T) {
	var each strings.Builder
	for n := range 256 {
		each.WriteByte(byte(n))
	}
	small := strings.ToLower(each.String()[:128]) + each.String()[128:]
	v, ok := expr.Eval(call("low", path("v")), doc(rank.Text(each.String())))
	has(t, "low of each byte", v, ok, rank.Text(small))
	for n := range 256 {
		b := each.String()[n : n+1]
		v, ok = expr.Eval(call("head", path("v")), doc(rank.Text(b+"xyz")))
		has(t, "head of a byte", v, ok, rank.Text(b))
	}
	v, ok = expr.Eval(call("head", path("v")), doc(rank.Text("éa")))
	has(t, "head of a sign of two bytes", v, ok, rank.Text("\xc3"))
	v, ok = expr.Eval(call("low", path("v")), doc(rank.Text("ÉA")))
	has(t, "low of a sign of two bytes", v, ok, rank.Text("Éa"))
	for _, k := range []int{0, 1, 100, 128, 129, 255, 256} {
		for _, m := range []int{0, 1, 128, 156, 157, 255, 256} {
			a, b := strings.Repeat("x", k), strings.Repeat("y", m)
			w := rank.Text(a + b)
			if k+m > 256 {
				w = api.Value{}
			}
			v, ok = expr.Eval(sum(path("v"), path("w")), doc(rank.Text(a), rank.Text(b)))
			has(t, fmt.Sprintf("%d and %d bytes", k, m), v, ok, w)
		}
	}
}

func TestEvalOfWhatMayNotBe(t *testing.T) {
	none := api.Value{}
	d := sample()
	for _, n := range append(odd(), tower(9, 0), tower(9, 2), knot(), sum(path("a"), path("1")), mul(num(1), num(-1)), call("foo", path("p"))) {
		v, ok := expr.Eval(n, d)
		has(t, "an odd one", v, ok, none)
	}
	for _, d := range oddDocs() {
		for _, n := range []api.Node{num(1), path("a"), sum(path("a"), num(1))} {
			v, ok := expr.Eval(n, d)
			has(t, fmt.Sprintf("%v of %v", n, d), v, ok, none)
		}
	}
}

// oddDocs may not be.
func oddDocs() []api.Doc {
	one := rank.Num(1)
	var many api.Doc
	for i := range 17 {
		many = append(many, api.Field{Path: string(rune('a' + i)), Val: one})
	}
	return []api.Doc{
		many, {{Path: "b", Val: one}, {Path: "a", Val: one}}, {{Path: "a", Val: one}, {Path: "a", Val: one}}, {{Path: "A", Val: one}}, {{Path: "a", Val: one}, {Path: "b."}},
		{{Path: "a"}}, {{Path: "a", Val: one}, {Path: "b", Val: rank.Num(mostNum + 1)}}, {{Path: "a", Val: one}, {Path: "b", Val: rank.Text(strings.Repeat("x", 257))}},
		{{Path: "a", Val: one}, {Path: "b", Val: rank.Point(mostPart+1, 0)}}, {{Path: "a", Val: api.Value{Kind: api.ValNum, Num: 1, Text: "x"}}},
	}
}

// A document with as many fields as may be is one.
func TestEvalOfFullDocuments(t *testing.T) {
	var d api.Doc
	for i := range 16 {
		d = append(d, api.Field{Path: string(rune('a' + i)), Val: rank.Num(i)})
	}
	v, ok := expr.Eval(must(t, "p*b+o"), d)
	has(t, "p*b+o", v, ok, rank.Num(29))
}

func TestEvalOfTheDeepest(t *testing.T) {
	d := doc(rank.Num(1), rank.Text("x"))
	v, ok := expr.Eval(full(8, path("v")), d)
	has(t, "the product of 128", v, ok, rank.Num(1))
	n := path("w")
	for range 7 {
		n = sum(n, n)
	}
	v, ok = expr.Eval(n, d)
	has(t, "the sum of 128", v, ok, rank.Text(strings.Repeat("x", 128)))
	v, ok = expr.Eval(n, doc(rank.Num(1), rank.Text("xy")))
	has(t, "the sum of 128 of two", v, ok, rank.Text(strings.Repeat("xy", 128)))
	v, ok = expr.Eval(n, doc(rank.Num(1), rank.Text("xyz")))
	has(t, "the sum of 128 of three", v, ok, api.Value{})
	v, ok = expr.Eval(n, doc(rank.Num(1), rank.Num(1<<46)))
	has(t, "the sum of 128 numbers", v, ok, rank.Num(mostNum))
	v, ok = expr.Eval(n, doc(rank.Num(1), rank.Num(-1<<46-1)))
	has(t, "the sum of 128 lower ones", v, ok, api.Value{})
}

// Ex2: ParseAll, EvalAll

func TestParseAll(t *testing.T) {
	long := strings.Repeat("(", 256)
	deep := "a" + strings.Repeat("+a", 8)
	for _, x := range []struct {
		s string
		n int
		e api.Errno
	}{
		{"a", 1, api.OK}, {"a,b", 2, api.OK}, {"a,a,a", 3, api.OK}, {"norm(p*p)+1,t,(a+b)*c,7", 4, api.OK},
		{"", 0, api.ErrText}, {",", 0, api.ErrText}, {"a,", 0, api.ErrText}, {",a", 0, api.ErrText}, {"a,,b", 0, api.ErrText}, {"a, b", 0, api.ErrText}, {"a;b", 0, api.ErrText}, {"(a,b)", 0, api.ErrText}, {"norm(a,b)", 0, api.ErrText},
		{"a,b,c,d,e", 0, api.ErrText}, {"a,b,c,d,", 0, api.ErrText}, {",,,,", 0, api.ErrText}, {",,,,,,,,,", 0, api.ErrText},
		{"a," + deep, 0, api.ErrDeep}, {deep + ",01", 0, api.ErrDeep}, {"01," + deep, 0, api.ErrText}, {"a,b,c," + long + "(", 0, api.ErrLong}, {long + "(,01", 0, api.ErrLong}, {"a,01," + long + "(", 0, api.ErrText}, {deep + "," + long + "(", 0, api.ErrDeep}, {long + "," + deep, 0, api.ErrText},
		{deep + ",a,b,c,d", 0, api.ErrText}, {long + "(,a,b,c,d", 0, api.ErrText}, {"a,b,c,d," + long + "(", 0, api.ErrText}, {strings.Repeat(",", 100000), 0, api.ErrText}, {strings.Repeat("a", 100000), 0, api.ErrLong},
	} {
		l, e := expr.ParseAll(x.s)
		if e != x.e || len(l) != x.n {
			t.Errorf("ParseAll(%.40q) = %d, %d; want %d, %d", x.s, len(l), e, x.n, x.e)
			continue
		}
		for i, n := range l {
			if !alike(n, must(t, strings.Split(x.s, ",")[i])) {
				t.Errorf("ParseAll(%q): %d is %v", x.s, i, n)
			}
		}
	}
}

// Four texts, each as long as may be, are a list.
func TestParseAllOfLongTexts(t *testing.T) {
	one := strings.Repeat("(", 127) + "ab" + strings.Repeat(")", 127)
	if l, e := expr.ParseAll(strings.Join([]string{one, one, one, one}, ",")); e != api.OK || len(l) != 4 {
		t.Errorf("ParseAll of four times 256 bytes: %d, %d", len(l), e)
	}
	if l, e := expr.ParseAll(one + "," + one + "a"); e != api.ErrLong || len(l) != 0 {
		t.Errorf("ParseAll with one of 257 bytes: %d, %d", len(l), e)
	}
}

func TestParseAllSharesNothing(t *testing.T) {
	l, _ := expr.ParseAll("a+b,a+b,a+b,a+b")
	for i := range l {
		for j := range l {
			if i != j && &l[i].Args[0] == &l[j].Args[0] {
				t.Errorf("%d and %d share their Args", i, j)
			}
		}
	}
	clear(l[0].Args)
	clear(l)
	again, _ := expr.ParseAll("a+b")
	if !alike(again[0], sum(path("a"), path("b"))) {
		t.Errorf("an answer was turned with another one: %v", again)
	}
}

func TestEvalAll(t *testing.T) {
	d := sample()
	for _, x := range []struct {
		s string
		l []api.Value
	}{
		{"a", []api.Value{rank.Num(3)}}, {"a,p", []api.Value{rank.Num(3), rank.Point(1, 2)}}, {"p,a", []api.Value{rank.Point(1, 2), rank.Num(3)}}, {"t,t,t", []api.Value{rank.Text("Ab"), rank.Text("Ab"), rank.Text("Ab")}},
		{"norm(p),a+1,low(t),7", []api.Value{rank.Num(5), rank.Num(4), rank.Text("ab"), rank.Num(7)}},
		{"b", nil}, {"b,a", nil}, {"a,b", nil}, {"a,p,t,b", nil}, {"a,a+p,t", nil},
	} {
		n, e := expr.ParseAll(x.s)
		if l, ok := expr.EvalAll(n, d); e != api.OK || !slices.Equal(l, x.l) || ok != (x.l != nil) {
			t.Errorf("EvalAll(%q) = %v, %t; want %v", x.s, l, ok, x.l)
		}
	}
	a := path("a")
	for _, n := range [][]api.Node{nil, {}, {a, a, a, a, a}, make([]api.Node, 100), {{}}, {a, {}}, {num(-1), a}, {a, a, a, tower(9, 0)}, {a, knot()}} {
		if l, ok := expr.EvalAll(n, d); ok || len(l) != 0 {
			t.Errorf("EvalAll of %d nodes = %v, %t", len(n), l, ok)
		}
	}
	if l, ok := expr.EvalAll([]api.Node{a, a, a, a}, d); !ok || len(l) != 4 {
		t.Errorf("EvalAll of four = %v, %t", l, ok)
	}
	for _, d := range oddDocs() {
		if l, ok := expr.EvalAll([]api.Node{num(1)}, d); ok || len(l) != 0 {
			t.Errorf("EvalAll of %v = %v, %t", d, l, ok)
		}
	}
}

func TestEvalAllKeepsNothing(t *testing.T) {
	n, d := []api.Node{path("a"), num(1), num(2)}, sample()
	room := n[:2]
	l, _ := expr.EvalAll(room, d)
	l = append(l, api.Value{})
	l[0] = rank.Num(99)
	again, ok := expr.EvalAll(room, d)
	if !ok || !slices.Equal(again, []api.Value{rank.Num(3), rank.Num(1)}) || !alike(n[2], num(2)) || !slices.Equal(d, sample()) {
		t.Errorf("EvalAll behind a turned answer = %v, %t", again, ok)
	}
}

// Ex3

// What Eval gives may be a value, also where a reckoning comes to the bounds.
func TestEvalGivesValues(t *testing.T) {
	docs := []api.Doc{sample(), {
		{Path: "a", Val: rank.Num(mostNum)}, {Path: "n", Val: rank.Num(-mostNum)}, {Path: "p", Val: rank.Point(mostPart, -mostPart)}, {Path: "q", Val: rank.Point(-mostPart, 1)},
		{Path: "t", Val: rank.Text(strings.Repeat("Z", 200))}, {Path: "u", Val: rank.Text(strings.Repeat("y", 56))},
	}, {
		{Path: "a", Val: rank.Num(-1)}, {Path: "n", Val: rank.Num(1 << 20)}, {Path: "p", Val: rank.Point(0, 1)}, {Path: "q", Val: rank.Point(1<<19, 1<<19)},
	}}
	r := rough(3)
	kinds := map[int]int{}
	for range 60000 {
		n := r.anyNode(1 + r.below(5))
		v, ok := expr.Eval(n, docs[r.below(3)])
		if ok && rank.Check(v) != api.OK || !ok && v != (api.Value{}) {
			t.Fatalf("Eval(%v) = %v, %t", n, v, ok)
		}
		kinds[v.Kind]++
	}
	if kinds[api.ValNum] < 1000 || kinds[api.ValText] < 1000 || kinds[api.ValPoint] < 1000 {
		t.Errorf("told kinds %v", kinds)
	}
}
