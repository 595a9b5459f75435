package expr_test

import (
	"reflect"
	"strings"
	"testing"

	"tailrace/api"
	"tailrace/expr"
)

func path(s string) api.Node { return api.Node{Kind: api.NodePath, Text: s} }
func num(n int) api.Node     { return api.Node{Kind: api.NodeNum, Num: n} }

func sum(a, b api.Node) api.Node {
	return api.Node{Kind: api.NodeSum, Args: []api.Node{a, b}}
}

func mul(a, b api.Node) api.Node {
	return api.Node{Kind: api.NodeMul, Args: []api.Node{a, b}}
}

func call(name string, n api.Node) api.Node {
	return api.Node{Kind: api.NodeCall, Text: name, Args: []api.Node{n}}
}

var names = []string{"norm", "conj", "turn", "low", "head"}

// tower is an expression of so many levels, with its depth on the left, on the right, or in calls.
func tower(levels, way int) api.Node {
	n := path("a")
	for range levels - 1 {
		switch way {
		case 0:
			n = sum(n, num(1))
		case 1:
			n = mul(num(2), n)
		default:
			n = call("turn", n)
		}
	}
	return n
}

// full is an expression with two Args at each node, so many levels.
func full(levels int, leaf api.Node) api.Node {
	if levels == 1 {
		return leaf
	}
	return mul(full(levels-1, leaf), full(levels-1, leaf))
}

// knot is a node that lies within itself.
func knot() api.Node {
	l := make([]api.Node, 2)
	l[0] = num(1)
	l[1] = api.Node{Kind: api.NodeSum, Args: l}
	return l[1]
}

// woven is a node of so many levels, of lists of n nodes that are all the same one.
func woven(levels, n int, leaf api.Node) api.Node {
	w := leaf
	for range levels - 1 {
		l := make([]api.Node, n)
		for i := range l {
			l[i] = w
		}
		w = api.Node{Kind: api.NodeSum, Args: l}
	}
	return w
}

// alike holds nodes against each other by Go's own means; nil and empty are the same.
func alike(a, b api.Node) bool { return reflect.DeepEqual(bare(a), bare(b)) }

func bare(n api.Node) api.Node {
	var args []api.Node
	for _, a := range n.Args {
		args = append(args, bare(a))
	}
	n.Args = args
	return n
}

// must is the expression of a text.
func must(t *testing.T, s string) api.Node {
	t.Helper()
	n, e := expr.Parse(s)
	if e != api.OK {
		t.Fatalf("Parse(%q) tells %d", s, e)
	}
	return n
}

// model reads a text from its end, by where its signs are: the last `+` that is in no parentheses, or else the last `*`.
func model(s string) (api.Node, bool) {
	for _, k := range []struct {
		sign byte
		kind int
	}{{'+', api.NodeSum}, {'*', api.NodeMul}} {
		if at := lastOutside(s, k.sign); at >= 0 {
			a, ok := model(s[:at])
			b, ok2 := model(s[at+1:])
			// A product has no sum on its right, and a sum none: the last sign was taken.
			return api.Node{Kind: k.kind, Args: []api.Node{a, b}}, ok && ok2
		}
	}
	if at := strings.IndexByte(s, '('); at >= 0 && strings.HasSuffix(s, ")") && balanced(s[at+1:len(s)-1]) {
		n, ok := model(s[at+1 : len(s)-1])
		if at == 0 {
			return n, ok
		}
		return call(s[:at], n), ok && strings.Contains(" norm conj turn low head ", " "+s[:at]+" ")
	}
	return modelWord(s)
}

func modelWord(s string) (api.Node, bool) {
	if s == "" || strings.Trim(s, "abcdefghijklmnopqrstuvwxyz0123456789.") != "" || len(s) > 64 {
		return api.Node{}, false
	}
	if strings.Trim(s, "0123456789") == "" {
		n := 0
		for _, c := range s[:min(len(s), 16)] {
			n = n*10 + int(c-'0')
		}
		return num(n), len(s) <= 15 && (s[0] != '0' || s == "0")
	}
	for _, w := range strings.Split(s, ".") {
		if w == "" {
			return api.Node{}, false
		}
	}
	return path(s), true
}

// lastOutside is where the last such sign in no parentheses is; -1, if none is, or they don't fit.
func lastOutside(s string, sign byte) int {
	if !balanced(s) {
		return -1
	}
	open, at := 0, -1
	for i := range len(s) {
		switch {
		case s[i] == '(':
			open++
		case s[i] == ')':
			open--
		case s[i] == sign && open == 0:
			at = i
		}
	}
	return at
}

func balanced(s string) bool {
	open := 0
	for i := range len(s) {
		switch s[i] {
		case '(':
			open++
		case ')':
			open--
		}
		if open < 0 {
			return false
		}
	}
	return open == 0
}

// depth is how many levels a node has.
func depth(n api.Node) int {
	most := 0
	for _, a := range n.Args {
		most = max(most, depth(a))
	}
	return most + 1
}

// trees are all expressions of so many levels at most, of few leaves and names.
func trees(levels int) []api.Node {
	out := []api.Node{path("a"), num(7)}
	if levels == 1 {
		return out
	}
	below := trees(levels - 1)
	for _, a := range below {
		out = append(out, call("turn", a))
		for _, b := range below {
			out = append(out, sum(a, b), mul(a, b))
		}
	}
	return out
}

// rough goes on by a rule of its own: the same numbers each time.
type rough uint64

func (r *rough) below(n int) int {
	*r = *r*6364136223846793005 + 1442695040888963407
	return int(uint64(*r)>>33) % n
}

// anyNode is an expression of so many levels at most.
func (r *rough) anyNode(levels int) api.Node {
	paths := []string{"a", "n", "p", "q", "t", "u", "zz.9", "norm", "1.2"}
	if levels == 1 || r.below(5) == 0 {
		if r.below(3) == 0 {
			return num([]int{0, 1, 2, 9, 1 << 20, 1e15 - 1}[r.below(6)])
		}
		return path(paths[r.below(len(paths))])
	}
	switch r.below(3) {
	case 0:
		return sum(r.anyNode(levels-1), r.anyNode(levels-1))
	case 1:
		return mul(r.anyNode(levels-1), r.anyNode(levels-1))
	}
	return call(names[r.below(5)], r.anyNode(levels-1))
}

// lists gathers all lists of Args of a node.
func lists(n api.Node, out [][]api.Node) [][]api.Node {
	if len(n.Args) > 0 {
		out = append(out, n.Args)
	}
	for _, a := range n.Args {
		out = lists(a, out)
	}
	return out
}
