package expr

import (
	"strconv"

	"tailrace/api"
	"tailrace/paper"
)

// maxDigits is how many digits a number has at most.
const maxDigits = 15

// frame is what has been read of a sum: of the whole text, or in parentheses.
type frame struct {
	name string   // the one ahead of the parenthesis, if there is one
	sum  api.Node // what stands ahead of its last `+`, and
	mul  api.Node // behind that ahead of a `*`; of no kind: nothing does
}

// reader has the rest of a text, and the sums that are not read to their end,
// each within the one ahead.
type reader struct {
	rest string
	open []frame
}

// read jumps between the two places that a text can be at: a part begins, or
// one lies behind.
func read(s string) (api.Node, bool) {
	var (
		n    api.Node
		word string
		ok   bool
	)
	r := reader{rest: s, open: []frame{{}}}
part:
	word = r.word()
	if (word == "" || isName(word)) && r.take('(') {
		r.open = append(r.open, frame{name: word})
		goto part
	}
	if n, ok = leaf(word); !ok {
		return api.Node{}, false
	}
behind:
	n = r.multiplied(n)
	if r.take('*') {
		r.top().mul = n
		goto part
	}
	n = r.added(n)
	if r.take('+') {
		r.top().sum = n
		goto part
	}
	if len(r.open) > 1 && r.take(')') {
		n = r.closed(n)
		goto behind
	}
	if len(r.open) > 1 || r.rest != "" {
		return api.Node{}, false
	}
	return n, true
}

// word takes the longest word off the text; none is empty.
func (r *reader) word() string {
	n := 0
	for n < len(r.rest) && inWord(r.rest[n]) {
		n++
	}
	word := r.rest[:n]
	r.rest = r.rest[n:]
	return word
}

func inWord(b byte) bool {
	return 'a' <= b && b <= 'z' || '0' <= b && b <= '9' || b == '.'
}

// take takes a sign off the text, if it stands there.
func (r *reader) take(sign byte) bool {
	if r.rest == "" || r.rest[0] != sign {
		return false
	}
	r.rest = r.rest[1:]
	return true
}

func (r *reader) top() *frame { return &r.open[len(r.open)-1] }

// multiplied is a part with the product ahead of it.
func (r *reader) multiplied(n api.Node) api.Node {
	top := r.top()
	if top.mul.Kind == 0 {
		return n
	}
	n = api.Node{Kind: api.NodeMul, Args: []api.Node{top.mul, n}}
	top.mul = api.Node{}
	return n
}

// added is a product with the sum ahead of it. That need not be forgotten: either
// a `+` follows, and another one takes its place, or the sum is at its end.
func (r *reader) added(n api.Node) api.Node {
	ahead := r.top().sum
	if ahead.Kind == 0 {
		return n
	}
	return api.Node{Kind: api.NodeSum, Args: []api.Node{ahead, n}}
}

// closed is the part that the innermost sum is, with its parentheses.
func (r *reader) closed(n api.Node) api.Node {
	name := r.top().name
	r.open = r.open[:len(r.open)-1]
	if name == "" {
		return n
	}
	return api.Node{Kind: api.NodeCall, Text: name, Args: []api.Node{n}}
}

// leaf is the number or the path that a word is.
func leaf(word string) (api.Node, bool) {
	if !digits(word) {
		return api.Node{Kind: api.NodePath, Text: word}, paper.Path(word)
	}
	if len(word) > maxDigits || len(word) > 1 && word[0] == '0' {
		return api.Node{}, false
	}
	num := 0
	for i := 0; i < len(word); i++ {
		num = num*10 + int(word[i]-'0')
	}
	return api.Node{Kind: api.NodeNum, Num: num}, true
}

// textOf is the text, however long, of an expression that may be.
func textOf(n api.Node) string {
	switch n.Kind {
	case api.NodePath:
		return n.Text
	case api.NodeNum:
		return strconv.Itoa(n.Num)
	case api.NodeCall:
		return n.Text + "(" + textOf(n.Args[0]) + ")"
	}
	left, right := n.Args[0], n.Args[1]
	if n.Kind == api.NodeSum {
		return textOf(left) + "+" + textWithin(right, right.Kind == api.NodeSum)
	}
	inner := right.Kind == api.NodeSum || right.Kind == api.NodeMul
	return textWithin(left, left.Kind == api.NodeSum) + "*" + textWithin(right, inner)
}

func textWithin(n api.Node, parentheses bool) string {
	if !parentheses {
		return textOf(n)
	}
	return "(" + textOf(n) + ")"
}
