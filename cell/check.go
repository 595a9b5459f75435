package cell

import "tailrace/api"

// place is where a list lies in memory. Lists that share their memory, or lie
// within themselves, are told by it, so that nobody goes round for ever; what
// is answered does not hang on it.
type place struct {
	first *api.Cell
	n     int
}

// placeOf is for lists that are not empty.
func placeOf(l []api.Cell) place { return place{&l[0], len(l)} }

// visit is a list that was looked through at a level.
type visit struct {
	list  place
	level int
}

// checker gathers the faults of a cell, since the deepest one is told first,
// wherever it stands.
type checker struct {
	cells int
	odd   bool // one has a part that may not be
	long  bool // a text is too long
	seen  map[visit]int
}

// look tells false as soon as a cell is too deep.
func (k *checker) look(c api.Cell, level int) bool {
	if level > api.MaxDeep {
		return false
	}
	k.cells++
	k.odd = k.odd || !fits(c)
	k.long = k.long || len(c.Text) > api.MaxBytes
	if c.Kind != api.CellList || k.again(c.List, level) {
		return true
	}
	for _, d := range c.List {
		if !k.look(d, level+1) {
			return false
		}
	}
	return true
}

// again tells whether a list need not be looked through once more. It is asked
// for only where there are too many cells anyway: a few lists, each of them
// many times in the next one, may be more cells than anybody can count.
func (k *checker) again(l []api.Cell, level int) bool {
	if k.cells <= api.MaxCells || len(l) == 0 {
		return false
	}
	if k.seen == nil {
		k.seen = map[visit]int{}
	}
	v := visit{placeOf(l), level}
	_, ok := k.seen[v]
	k.seen[v] = level
	return ok
}

// fits tells whether a cell's own parts may be, but for a text's length.
func fits(c api.Cell) bool {
	switch c.Kind {
	case api.CellNum:
		return -api.MaxNum <= c.Num && c.Num <= api.MaxNum && c.Text == "" && len(c.List) == 0
	case api.CellText:
		return c.Num == 0 && len(c.List) == 0
	case api.CellList:
		return c.Num == 0 && c.Text == ""
	}
	return false
}
