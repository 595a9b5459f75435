package expr

import (
	"tailrace/api"
	"tailrace/gauss"
	"tailrace/paper"
	"tailrace/rank"
)

// valueOf is the value of an expression, of a document, that both may be.
func valueOf(n api.Node, d api.Doc) (api.Value, bool) {
	switch n.Kind {
	case api.NodePath:
		return paper.Get(d, n.Text)
	case api.NodeNum:
		return rank.Num(n.Num), true
	}
	a, ok := valueOf(n.Args[0], d)
	if !ok {
		return api.Value{}, false
	}
	if n.Kind == api.NodeCall {
		return called(n.Text, a)
	}
	b, ok := valueOf(n.Args[1], d)
	if !ok {
		return api.Value{}, false
	}
	if n.Kind == api.NodeSum {
		return sum(a, b)
	}
	return product(a, b)
}

func sum(a, b api.Value) (api.Value, bool) {
	if a.Kind != b.Kind {
		return api.Value{}, false
	}
	switch a.Kind {
	case api.ValNum:
		return fit(rank.Num(a.Num + b.Num))
	case api.ValText:
		return fit(rank.Text(a.Text + b.Text))
	}
	return pointOr(gauss.Add(a.Point, b.Point))
}

func product(a, b api.Value) (api.Value, bool) {
	if a.Kind == api.ValText || b.Kind == api.ValText {
		return api.Value{}, false
	}
	if a.Kind == api.ValNum && b.Kind == api.ValNum {
		return times(a.Num, b.Num)
	}
	return pointOr(gauss.Mul(asPoint(a), asPoint(b)))
}

// times asks ahead of multiplying, since what is too great wraps round, and may
// come to lie within the bounds again.
func times(a, b int) (api.Value, bool) {
	if b != 0 && max(a, -a) > api.MaxNum/max(b, -b) {
		return api.Value{}, false
	}
	return rank.Num(a * b), true
}

// asPoint is a point, or a number as one; one that is too great layer 3
// refuses.
func asPoint(v api.Value) api.Point {
	if v.Kind == api.ValNum {
		return api.Point{Re: v.Num}
	}
	return v.Point
}

// called is what a name makes of a value.
func called(name string, v api.Value) (api.Value, bool) {
	switch v.Kind {
	case api.ValPoint:
		return calledPoint(name, v.Point)
	case api.ValText:
		return calledText(name, v.Text)
	}
	return api.Value{}, false
}

func calledPoint(name string, p api.Point) (api.Value, bool) {
	switch name {
	case "norm":
		return rank.Num(gauss.Norm(p)), true
	case "conj":
		return pointOr(gauss.Mirror(p), api.OK)
	case "turn":
		return pointOr(gauss.Turn(p, 1), api.OK)
	}
	return api.Value{}, false
}

func calledText(name, s string) (api.Value, bool) {
	switch name {
	case "low":
		return rank.Text(low(s)), true
	case "head":
		return rank.Text(s[:min(len(s), 1)]), true
	}
	return api.Value{}, false
}

// low turns bytes, not signs of more than one: all others stay as they are.
func low(s string) string {
	b := []byte(s)
	for i, c := range b {
		if 'A' <= c && c <= 'Z' {
			b[i] = c - 'A' + 'a'
		}
	}
	return string(b)
}

// pointOr is a point as a value; none beside an error.
func pointOr(p api.Point, e api.Errno) (api.Value, bool) {
	if e != api.OK {
		return api.Value{}, false
	}
	return rank.Point(p.Re, p.Im), true
}

// fit is a value, if it may be.
func fit(v api.Value) (api.Value, bool) {
	if rank.Check(v) != api.OK {
		return api.Value{}, false
	}
	return v, true
}
