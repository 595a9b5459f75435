package cell

import "tailrace/api"

// pair is two lists that must be alike.
type pair struct{ a, b []api.Cell }

// matcher has the pairs that are still to be held against each other. It calls
// itself nowhere: cells that may not be may be deeper than a stack.
type matcher struct {
	pairs []pair
	done  int
	seen  map[[2]place]int
}

func (m *matcher) match(p pair) bool {
	if len(p.a) != len(p.b) {
		return false
	}
	m.done++
	for i, a := range p.a {
		b := p.b[i]
		if a.Kind != b.Kind || a.Num != b.Num || a.Text != b.Text || len(a.List) != len(b.List) {
			return false
		}
		if len(a.List) > 0 && !m.again(a.List, b.List) {
			m.pairs = append(m.pairs, pair{a.List, b.List})
		}
	}
	return true
}

// again tells whether two lists were, or will be, held against each other
// anyway. It is asked for only behind so many that one of the cells may not
// be: that one may lie within itself.
func (m *matcher) again(a, b []api.Cell) bool {
	if m.done <= api.MaxCells {
		return false
	}
	if m.seen == nil {
		m.seen = map[[2]place]int{}
	}
	v := [2]place{placeOf(a), placeOf(b)}
	_, ok := m.seen[v]
	m.seen[v] = m.done
	return ok
}
