package expr_test

import (
	"fmt"
	"math"
	"strings"
	"testing"

	"tailrace/api"
	"tailrace/expr"
)

// Ex1: Check

func TestCheckOfWhatMayBe(t *testing.T) {
	l := []api.Node{
		path("a"), path("a.b"), path("1.2"), path("0.a"), path("0a"), path("norm"), path("low.head"), path(strings.Repeat("a", 64)),
		num(0), num(1), num(1e15 - 1),
		sum(num(1), path("a")), mul(path("a"), num(1)),
		{Kind: api.NodePath, Text: "a", Args: []api.Node{}}, {Kind: api.NodeNum, Args: []api.Node{}},
		full(8, num(1)),
	}
	for _, name := range names {
		l = append(l, call(name, path("a")))
	}
	for way := range 3 {
		l = append(l, tower(8, way))
	}
	for _, n := range l {
		if e := expr.Check(n); e != api.OK {
			t.Errorf("Check(%v) = %d", n, e)
		}
	}
}

// odd are nodes that may not be, and are not too deep.
func odd() []api.Node {
	a, b := path("a"), num(2)
	return []api.Node{
		{}, {Kind: 6}, {Kind: -1}, {Kind: 6, Args: []api.Node{a, b}}, {Kind: math.MaxInt}, {Kind: math.MinInt},
		path(""), path("."), path("a."), path(".a"), path("a..b"), path("A"), path("a b"), path("a+b"), path("(a)"),
		path("1"), path("0"), path("01"), path("123456789012345678"), path(strings.Repeat("a", 65)), path(strings.Repeat("1", 64)),
		num(-1), num(1e15), num(math.MaxInt), num(math.MinInt),
		{Kind: api.NodePath, Text: "a", Num: 1}, {Kind: api.NodePath, Text: "a", Num: -1}, {Kind: api.NodePath, Text: "a", Args: []api.Node{a}},
		{Kind: api.NodeNum, Num: 1, Text: "a"}, {Kind: api.NodeNum, Num: 1, Args: []api.Node{b}}, {Kind: api.NodeNum, Text: "1"},
		{Kind: api.NodeSum}, {Kind: api.NodeSum, Args: []api.Node{a}}, {Kind: api.NodeSum, Args: []api.Node{a, b, a}},
		{Kind: api.NodeSum, Text: "+", Args: []api.Node{a, b}}, {Kind: api.NodeSum, Num: 2, Args: []api.Node{a, b}},
		{Kind: api.NodeMul}, {Kind: api.NodeMul, Args: []api.Node{a}}, {Kind: api.NodeMul, Args: []api.Node{a, b, a}},
		{Kind: api.NodeMul, Text: "*", Args: []api.Node{a, b}}, {Kind: api.NodeMul, Num: 2, Args: []api.Node{a, b}},
		{Kind: api.NodeCall, Text: "norm"}, {Kind: api.NodeCall, Text: "norm", Args: []api.Node{a, b}}, {Kind: api.NodeCall, Text: "norm", Num: 1, Args: []api.Node{a}},
		call("", a), call("foo", a), call("a", a), call("Norm", a), call("norm ", a), call("nor", a), call("norms", a), call("low.", a),
	}
}

func TestCheckOfWhatMayNotBe(t *testing.T) {
	for _, n := range odd() {
		within := []api.Node{n, sum(n, num(1)), sum(num(1), n), mul(n, num(1)), mul(num(1), n), call("norm", n)}
		for _, w := range within {
			if e := expr.Check(w); e != api.ErrArg {
				t.Errorf("Check(%v) = %d", w, e)
			}
		}
	}
	if e := expr.Check(woven(8, 3, num(1))); e != api.ErrArg {
		t.Errorf("Check of eight levels of three Args: %d", e)
	}
}

func TestCheckOfWhatIsTooDeep(t *testing.T) {
	for way := range 3 {
		for _, levels := range []int{9, 10, 100, 100000} {
			if e := expr.Check(tower(levels, way)); e != api.ErrDeep {
				t.Errorf("Check of %d levels, way %d: %d", levels, way, e)
			}
		}
	}
	if e := expr.Check(full(9, num(1))); e != api.ErrDeep {
		t.Errorf("Check of nine full levels: %d", e)
	}
	if e := expr.Check(knot()); e != api.ErrDeep {
		t.Errorf("Check of a node within itself: %d", e)
	}
}

// That it is too deep is told first, wherever it is, and however odd the rest is.
func TestCheckTellsDepthFirst(t *testing.T) {
	deep := tower(8, 0)
	for _, kind := range []int{0, api.NodePath, api.NodeNum, api.NodeSum, api.NodeMul, api.NodeCall, 6, -1} {
		for _, args := range [][]api.Node{{deep}, {num(-1), deep}, {path("A"), num(-1), deep}, {deep, {}}} {
			n := api.Node{Kind: kind, Text: "A", Num: -1, Args: args}
			if e := expr.Check(n); e != api.ErrDeep {
				t.Errorf("Check of kind %d with %d Args, one of them deep: %d", kind, len(args), e)
			}
			if e := expr.Check(sum(num(-1), n)); e != api.ErrDeep {
				t.Errorf("Check of that in a sum: %d", e)
			}
		}
	}
	if e := expr.Check(full(9, api.Node{})); e != api.ErrDeep {
		t.Errorf("Check of nine levels without kinds: %d", e)
	}
}

// What is woven of a few lists is more nodes than can be counted.
func TestCheckEnds(t *testing.T) {
	if e := expr.Check(woven(8, 1000, num(1))); e != api.ErrArg {
		t.Errorf("Check of a woven node of eight levels: %d", e)
	}
	if e := expr.Check(woven(9, 1000, num(1))); e != api.ErrDeep {
		t.Errorf("Check of a woven node of nine levels: %d", e)
	}
	n := woven(5, 1000, knot())
	if e := expr.Check(n); e != api.ErrDeep {
		t.Errorf("Check of a woven node with a knot in it: %d", e)
	}
}

// Ex1: Parse

func TestParse(t *testing.T) {
	a, b, c, d := path("a"), path("b"), path("c"), path("d")
	for _, x := range []struct {
		s string
		n api.Node
	}{
		{"a", a}, {"a.b", path("a.b")}, {"0", num(0)}, {"7", num(7)}, {"10", num(10)}, {"999999999999999", num(1e15 - 1)}, {"100000000000000", num(1e14)},
		{"1.2", path("1.2")}, {"00.1", path("00.1")}, {"0a", path("0a")}, {"00a", path("00a")}, {"norm", path("norm")}, {"norm+low", sum(path("norm"), path("low"))},
		{strings.Repeat("a", 64), path(strings.Repeat("a", 64))}, {strings.Repeat("1", 63) + "z", path(strings.Repeat("1", 63) + "z")},
		{"a+b", sum(a, b)}, {"a*b", mul(a, b)},
		{"a+b+c", sum(sum(a, b), c)}, {"a*b*c", mul(mul(a, b), c)}, {"a+b+c+d", sum(sum(sum(a, b), c), d)}, {"a*b*c*d", mul(mul(mul(a, b), c), d)},
		{"a+(b+c)", sum(a, sum(b, c))}, {"a*(b*c)", mul(a, mul(b, c))}, {"(a+b)+c", sum(sum(a, b), c)}, {"(a*b)*c", mul(mul(a, b), c)},
		{"a+b*c", sum(a, mul(b, c))}, {"a*b+c", sum(mul(a, b), c)}, {"(a+b)*c", mul(sum(a, b), c)}, {"a*(b+c)", mul(a, sum(b, c))},
		{"a+b*c+d", sum(sum(a, mul(b, c)), d)}, {"a*b+c*d", sum(mul(a, b), mul(c, d))}, {"a*(b+c)*d", mul(mul(a, sum(b, c)), d)}, {"a+(b+c)+d", sum(sum(a, sum(b, c)), d)},
		{"a+b*c*d", sum(a, mul(mul(b, c), d))}, {"(a+b)*(c+d)", mul(sum(a, b), sum(c, d))},
		{"(a)", a}, {"((a))", a}, {"((a)+((b)))", sum(a, b)}, {"(7)", num(7)},
		{"norm(a)", call("norm", a)}, {"conj(a)", call("conj", a)}, {"turn(a)", call("turn", a)}, {"low(a)", call("low", a)}, {"head(a)", call("head", a)},
		{"norm(a+b)", call("norm", sum(a, b))}, {"norm((a))", call("norm", a)}, {"low(head(a))", call("low", call("head", a))}, {"low(low)", call("low", path("low"))},
		{"low(a)*head(b)+c", sum(mul(call("low", a), call("head", b)), c)}, {"a+norm(b)*c", sum(a, mul(call("norm", b), c))}, {"norm(a)+norm(b)", sum(call("norm", a), call("norm", b))},
	} {
		if n, e := expr.Parse(x.s); e != api.OK || !alike(n, x.n) {
			t.Errorf("Parse(%q) = %v, %d; want %v", x.s, n, e, x.n)
		}
	}
}

func TestParseOfNoText(t *testing.T) {
	for _, s := range []string{
		"", " ", "a ", " a", "a b", "a +b", "a+ b", "\n", "a\n", "\x00", "a\x00", "é", "\xff", "A", "a-b", "a/b", "a,b", ",", "-1", "+1",
		"+", "*", "a+", "a*", "+a", "*a", "a++b", "a**b", "a+*b", "a*+b", "a+b+", "a*b*",
		"(", ")", "()", "(a", "a)", ")a(", "((a)", "(a))", "(a+)", "(+a)", "a()", "a(b)", "(a)b", "(a)(b)", "a(", "(a)1", "1(a)", "2(a+b)",
		"foo(a)", "nor(a)", "norms(a)", "a.norm(b)", "norm.(a)", "1norm(a)", "norm1(a)", "norm (a)", "norm( a)", "norm(a) ", "norm()", "norm(a,b)", "norm(a", "norm(", "norm)", "normnorm(a)", "norm(a)(b)", "norm(a)b", "norm(a)norm(b)", "Norm(a)",
		".", "..", "a.", ".a", "a..b", "1.", ".1", "1..2", strings.Repeat("a", 65), strings.Repeat("1.", 32) + "1",
		"00", "01", "007", "1000000000000000", "0000000000000000", strings.Repeat("9", 16), strings.Repeat("9", 20), strings.Repeat("1", 64), strings.Repeat("1", 65), "a+01", "01*a", "(01)", "norm(01)",
	} {
		if n, e := expr.Parse(s); e != api.ErrText || !alike(n, api.Node{}) {
			t.Errorf("Parse(%q) = %v, %d", s, n, e)
		}
	}
}

func TestParseOfEachByte(t *testing.T) {
	const signs = "abcdefghijklmnopqrstuvwxyz0123456789"
	for n := range 256 {
		b := string([]byte{byte(n)})
		word := strings.Contains(signs, b)
		if _, e := expr.Parse(b); (e == api.OK) != word || e != api.OK && e != api.ErrText {
			t.Errorf("Parse(%q) tells %d", b, e)
		}
		inner := word || b == "." || b == "+" || b == "*"
		if _, e := expr.Parse("a" + b + "b"); (e == api.OK) != inner || e != api.OK && e != api.ErrText {
			t.Errorf("Parse of %q between a and b tells %d", b, e)
		}
	}
}

func TestParseOfLongTexts(t *testing.T) {
	long := "((" + strings.Repeat("(", 125) + "ab" + strings.Repeat(")", 125) + "))"
	if len(long) != 256 {
		t.Fatal(len(long))
	}
	if n, e := expr.Parse(long); e != api.OK || !alike(n, path("ab")) {
		t.Errorf("Parse of 256 bytes = %v, %d", n, e)
	}
	for _, s := range []string{"(" + long, strings.Repeat("+", 257), strings.Repeat("a+", 150) + "a", strings.Repeat("\x00", 100000), "a" + strings.Repeat(" ", 256)} {
		if n, e := expr.Parse(s); e != api.ErrLong || !alike(n, api.Node{}) {
			t.Errorf("Parse of %d bytes = %v, %d", len(s), n, e)
		}
	}
	if _, e := expr.Parse(strings.Repeat("(", 256)); e != api.ErrText {
		t.Errorf("Parse of 256 parentheses tells %d", e)
	}
}

func TestParseOfDeepTexts(t *testing.T) {
	calls := func(n int) string { return strings.Repeat("turn(", n) + "a" + strings.Repeat(")", n) }
	right := func(n int) string { return strings.Repeat("a*(", n) + "a" + strings.Repeat(")", n) }
	for _, x := range []struct {
		s string
		e api.Errno
	}{
		{"a" + strings.Repeat("+a", 7), api.OK}, {"a" + strings.Repeat("+a", 8), api.ErrDeep}, {"a" + strings.Repeat("+a", 127), api.ErrDeep},
		{"a" + strings.Repeat("*a", 7), api.OK}, {"a" + strings.Repeat("*a", 8), api.ErrDeep},
		{calls(7), api.OK}, {calls(8), api.ErrDeep}, {calls(40), api.ErrDeep},
		{right(7), api.OK}, {right(8), api.ErrDeep}, {right(63), api.ErrDeep},
		{"((" + right(7) + "))", api.OK}, {calls(6) + "+a", api.OK}, {calls(7) + "+a", api.ErrDeep}, {"a+" + calls(7), api.ErrDeep},
		{"a" + strings.Repeat("+a", 127) + "+", api.ErrText}, {calls(8) + ")", api.ErrText}, {"(" + right(8), api.ErrText}, {"01+" + calls(9), api.ErrText}, {calls(9) + "+A", api.ErrText},
	} {
		n, e := expr.Parse(x.s)
		if e != x.e || e != api.OK && !alike(n, api.Node{}) {
			t.Errorf("Parse(%q) = %v, %d; want %d", x.s, n, e, x.e)
		}
	}
}

// All texts of a few pieces, held against a reader that goes another way.
func TestParseOfAllShortTexts(t *testing.T) {
	pieces := []string{"a", "0", "1", "low", ".", "+", "*", "(", ")"}
	good := 0
	var grow func(s string, left int)
	grow = func(s string, left int) {
		n, e := expr.Parse(s)
		w, ok := model(s)
		if ok != (e == api.OK) || !ok && (e != api.ErrText || !alike(n, api.Node{})) || ok && !alike(n, w) {
			t.Fatalf("Parse(%q) = %v, %d; want %v, %t", s, n, e, w, ok)
		}
		if ok {
			good++
		}
		if left == 0 {
			return
		}
		for _, p := range pieces {
			grow(s+p, left-1)
		}
	}
	grow("", 6)
	if good < 1000 {
		t.Errorf("%d texts are good ones", good)
	}
}

// Texts that were good till something was done to them, held against the same.
func TestParseOfBentTexts(t *testing.T) {
	r := rough(1)
	signs := "a09.+*()lown ,A"
	told := map[api.Errno]int{}
	for range 20000 {
		s, e := expr.Print(r.anyNode(5))
		if e != api.OK {
			continue
		}
		at := r.below(len(s))
		switch r.below(3) {
		case 0:
			s = s[:at] + s[at+1:]
		case 1:
			s = s[:at] + string(signs[r.below(len(signs))]) + s[at:]
		case 2:
			s = s[:at] + string(signs[r.below(len(signs))]) + s[at+1:]
		}
		w, ok := model(s)
		want := api.OK
		switch {
		case len(s) > 256:
			want = api.ErrLong
		case !ok:
			want = api.ErrText
		case depth(w) > 8:
			want = api.ErrDeep
		}
		n, e := expr.Parse(s)
		if e != want || e == api.OK && !alike(n, w) {
			t.Fatalf("Parse(%q) = %v, %d; want %v, %d", s, n, e, w, want)
		}
		told[e]++
	}
	if told[api.OK] < 1000 || told[api.ErrText] < 1000 {
		t.Errorf("told %v", told)
	}
}

// Ex1: Print

func TestPrint(t *testing.T) {
	a, b, c := path("a"), path("b"), path("c")
	for _, x := range []struct {
		n api.Node
		s string
	}{
		{a, "a"}, {path("a.0"), "a.0"}, {num(0), "0"}, {num(120), "120"}, {num(1e15 - 1), "999999999999999"},
		{sum(a, b), "a+b"}, {mul(a, b), "a*b"}, {call("norm", a), "norm(a)"}, {call("low", call("head", path("head"))), "low(head(head))"},
		{sum(sum(a, b), c), "a+b+c"}, {sum(a, sum(b, c)), "a+(b+c)"}, {mul(mul(a, b), c), "a*b*c"}, {mul(a, mul(b, c)), "a*(b*c)"},
		{sum(mul(a, b), c), "a*b+c"}, {sum(a, mul(b, c)), "a+b*c"}, {mul(sum(a, b), c), "(a+b)*c"}, {mul(a, sum(b, c)), "a*(b+c)"},
		{mul(sum(a, b), sum(b, c)), "(a+b)*(b+c)"}, {sum(sum(a, b), sum(b, c)), "a+b+(b+c)"}, {mul(mul(a, b), mul(b, c)), "a*b*(b*c)"}, {sum(mul(a, b), mul(b, c)), "a*b+b*c"},
		{call("norm", sum(a, b)), "norm(a+b)"}, {call("conj", mul(a, b)), "conj(a*b)"}, {mul(call("turn", sum(a, b)), a), "turn(a+b)*a"}, {sum(a, call("head", sum(a, b))), "a+head(a+b)"},
		{sum(a, mul(sum(a, b), mul(b, c))), "a+(a+b)*(b*c)"},
	} {
		if s, e := expr.Print(x.n); e != api.OK || s != x.s {
			t.Errorf("Print(%v) = %q, %d; want %q", x.n, s, e, x.s)
		}
	}
}

func TestPrintOfWhatMayNotBe(t *testing.T) {
	for _, n := range odd() {
		for _, w := range []api.Node{n, sum(path("a"), n), call("low", n)} {
			if s, e := expr.Print(w); e != api.ErrArg || s != "" {
				t.Errorf("Print(%v) = %q, %d", w, s, e)
			}
		}
	}
	for _, n := range []api.Node{tower(9, 0), tower(9, 1), tower(9, 2), knot(), full(9, num(1)), full(9, path(strings.Repeat("a", 64)))} {
		if s, e := expr.Print(n); e != api.ErrDeep || s != "" {
			t.Errorf("Print of what is too deep = %q, %d", s, e)
		}
	}
}

func TestPrintOfLongTexts(t *testing.T) {
	w := path(strings.Repeat("a", 64))
	v := path(strings.Repeat("b", 61))
	four := sum(sum(w, w), sum(v, w)) // 64 + 1 + 64 + 1 + 1 + 61 + 1 + 64 + 1 = 258
	for _, x := range []struct {
		n   api.Node
		len int
	}{
		{four, 258}, {sum(sum(w, w), sum(path(v.Text[:60]), w)), 257}, {sum(sum(w, w), sum(path(v.Text[:59]), w)), 256}, {sum(sum(w, w), sum(path(v.Text[:58]), w)), 255},
		{full(8, num(1)), 381}, {full(8, w), 8445}, {full(7, num(1)), 189}, {full(7, num(12)), 253},
		{mul(full(7, num(12)), num(1)), 255}, {mul(full(7, num(12)), num(12)), 256}, {mul(full(7, num(12)), num(123)), 257},
	} {
		s, e := expr.Print(x.n)
		switch {
		case x.len > 256 && (e != api.ErrLong || s != ""):
			t.Errorf("Print of %d bytes = %q, %d", x.len, s, e)
		case x.len <= 256 && (e != api.OK || len(s) != x.len):
			t.Errorf("Print of %d bytes = %d, %d", x.len, len(s), e)
		}
	}
}

// No parentheses are there that could be left out.
func TestPrintWithoutOtherParentheses(t *testing.T) {
	for _, n := range trees(3) {
		s, _ := expr.Print(n)
		for i := range s {
			if s[i] != '(' || i > 0 && s[i-1] >= 'a' {
				continue
			}
			end := i + 1
			for !balanced(s[i : end+1]) {
				end++
			}
			less := s[:i] + s[i+1:end] + s[end+1:]
			if m, e := expr.Parse(less); e == api.OK && alike(m, n) {
				t.Fatalf("Print = %q; %q would do", s, less)
			}
		}
	}
}

// Ex1: Same

func TestSame(t *testing.T) {
	l := append(odd(), path("a"), path("b"), num(1), num(3), sum(path("a"), num(1)), sum(num(1), path("a")), mul(path("a"), num(1)),
		sum(path("a"), num(3)), call("low", path("a")), call("low", path("b")), call("head", path("a")), tower(8, 0), tower(9, 0), tower(9, 1), tower(9, 2), full(8, num(1)), full(9, num(1)), full(9, num(2)), tower(300, 1), tower(301, 1))
	for i, a := range l {
		for j, b := range l {
			if expr.Same(a, b) != alike(a, b) || expr.Same(a, b) != (i == j) {
				t.Errorf("Same(%v, %v) = %t", a, b, expr.Same(a, b))
			}
		}
		if !expr.Same(a, bare(a)) {
			t.Errorf("%v is another one than its copy", a)
		}
	}
	if !expr.Same(api.Node{Kind: 1, Args: []api.Node{}}, api.Node{Kind: 1}) || !expr.Same(sum(num(1), api.Node{Args: []api.Node{}}), sum(num(1), api.Node{})) {
		t.Error("nil and empty Args are not the same")
	}
}

func TestSameOfEachTree(t *testing.T) {
	l := trees(3)
	for i := 0; i < len(l); i += 7 {
		for j, b := range l {
			if expr.Same(l[i], b) != (i == j) {
				t.Fatalf("Same(%v, %v) = %t", l[i], b, expr.Same(l[i], b))
			}
		}
	}
}

// A node's last leaf, many nodes behind, is looked at too.
func TestSameOfManyNodes(t *testing.T) {
	a, b := full(12, num(1)), full(12, num(1))
	if !expr.Same(a, b) {
		t.Error("they are not the same")
	}
	for _, way := range []int{0, 1} {
		n := &b
		for len(n.Args) > 0 {
			n = &n.Args[way]
		}
		n.Num = 2
		if expr.Same(a, b) || expr.Same(b, a) {
			t.Errorf("they are the same, way %d", way)
		}
		n.Num = 1
	}
}

func TestSameEnds(t *testing.T) {
	if !expr.Same(knot(), knot()) {
		t.Error("knots are not the same")
	}
	other := knot()
	other.Args[0].Num = 2
	if expr.Same(knot(), other) || expr.Same(knot(), tower(1000, 1)) {
		t.Error("a knot and another one are the same")
	}
	if !expr.Same(woven(8, 1000, num(1)), woven(8, 1000, num(1))) || expr.Same(woven(8, 1000, num(1)), woven(8, 1000, num(2))) {
		t.Error("Same of woven nodes")
	}
	if !expr.Same(tower(1000000, 2), tower(1000000, 2)) || expr.Same(tower(1000000, 2), tower(1000001, 2)) {
		t.Error("Same of deep nodes")
	}
}

// Ex3

func TestParseOfPrint(t *testing.T) {
	for _, n := range trees(3) {
		s, e := expr.Print(n)
		m, f := expr.Parse(s)
		if e != api.OK || f != api.OK || !alike(m, n) || !expr.Same(m, n) {
			t.Fatalf("Parse of Print(%v), %q, = %v, %d, %d", n, s, m, e, f)
		}
	}
	r := rough(2)
	printed := 0
	for range 20000 {
		n := r.anyNode(8)
		s, e := expr.Print(n)
		if e != api.OK {
			if e != api.ErrLong || s != "" {
				t.Fatalf("Print(%v) = %q, %d", n, s, e)
			}
			continue
		}
		printed++
		if m, f := expr.Parse(s); f != api.OK || !alike(m, n) {
			t.Fatalf("Parse(%q) = %v, %d; want %v", s, m, f, n)
		}
	}
	if printed < 5000 {
		t.Errorf("%d were printed", printed)
	}
}

// R3

func TestParseSharesNothing(t *testing.T) {
	for _, s := range []string{"a+a+a*(a+a)*norm(a)", "a+b*c+d", "((a+b)*(a+b))", "low(low(low(a)))"} {
		n, again := must(t, s), must(t, s)
		l := lists(n, lists(again, nil))
		at := map[string]int{}
		for _, x := range l {
			for i := range x[:cap(x)] {
				at[fmt.Sprintf("%p", &x[:cap(x)][i])]++
			}
		}
		for p, k := range at {
			if k > 1 {
				t.Errorf("%q: %d lists at %s", s, k, p)
			}
		}
		want := bare(n)
		for _, x := range lists(again, nil) {
			clear(x)
		}
		if !alike(n, want) || !alike(must(t, s), want) {
			t.Errorf("%q: an answer was turned with another one", s)
		}
	}
}

func TestNodesAreNotTurned(t *testing.T) {
	for _, n := range append(odd(), sum(mul(path("a"), num(2)), call("norm", sum(path("p"), path("p")))), tower(9, 0)) {
		was := bare(n)
		d := api.Doc{{Path: "a", Val: api.Value{Kind: api.ValNum, Num: 3}}}
		expr.Check(n)
		expr.Print(n)
		expr.Eval(n, d)
		expr.EvalAll([]api.Node{n, n}, d)
		expr.Same(n, n)
		if !alike(n, was) || d[0].Path != "a" || d[0].Val.Num != 3 {
			t.Errorf("%v was turned", was)
		}
	}
}
