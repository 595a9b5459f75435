package expr

import "tailrace/api"

// manyNodes is more nodes than an expression that may be has.
const manyNodes = 1 << api.MaxTerm

// pair is two lists that must be alike.
type pair struct{ a, b []api.Node }

// matcher has the pairs that are still to be held against each other. It calls
// itself nowhere: nodes that may not be may be deeper than a stack.
type matcher struct {
	pairs []pair
	done  int // nodes
	seen  map[[2]place]int
}

func (m *matcher) match(p pair) bool {
	for i, a := range p.a {
		b := p.b[i]
		m.done++
		if a.Kind != b.Kind || a.Text != b.Text || a.Num != b.Num || len(a.Args) != len(b.Args) {
			return false
		}
		if len(a.Args) > 0 && !m.again(a.Args, b.Args) {
			m.pairs = append(m.pairs, pair{a.Args, b.Args})
		}
	}
	return true
}

// again tells whether two lists were, or will be, held against each other
// anyway. It is asked for only behind so many nodes that the expressions may not
// be: they may lie within themselves.
func (m *matcher) again(a, b []api.Node) bool {
	if m.done <= manyNodes {
		return false
	}
	if m.seen == nil {
		m.seen = map[[2]place]int{}
	}
	v := [2]place{placeOf(a), placeOf(b)}
	_, ok := m.seen[v]
	m.seen[v] = m.done
	return ok
}
