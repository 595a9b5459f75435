// Package cell is layer 1: data as bytes: see shared/doc/01-cell.md.
package cell

import "tailrace/api"

// Check tells why a cell may not be.
func Check(c api.Cell) api.Errno {
	var k checker
	if !k.look(c, 1) {
		return api.ErrDeep
	}
	switch {
	case k.odd:
		return api.ErrArg
	case k.long || k.cells > api.MaxCells:
		return api.ErrLong
	}
	return api.OK
}

// Encode is a cell's bytes.
func Encode(c api.Cell) ([]byte, api.Errno) {
	if e := Check(c); e != api.OK {
		return nil, e
	}
	b := put(nil, c)
	if len(b) > api.MaxBytes {
		return nil, api.ErrLong
	}
	return b, api.OK
}

// Decode is the cell of bytes.
func Decode(b []byte) (api.Cell, api.Errno) {
	if len(b) > api.MaxBytes {
		return api.Cell{}, api.ErrLong
	}
	r := reader{rest: b}
	c, ok := r.cell(1)
	if !ok || len(r.rest) > 0 {
		return api.Cell{}, api.ErrText
	}
	return c, api.OK
}

// Same tells whether cells are alike.
func Same(a, b api.Cell) bool {
	m := matcher{pairs: []pair{{[]api.Cell{a}, []api.Cell{b}}}}
	for len(m.pairs) > 0 {
		last := len(m.pairs) - 1
		p := m.pairs[last]
		m.pairs = m.pairs[:last]
		if !m.match(p) {
			return false
		}
	}
	return true
}

// Num is a number.
func Num(n int) api.Cell { return api.Cell{Kind: api.CellNum, Num: n} }

// Text is a text.
func Text(s string) api.Cell { return api.Cell{Kind: api.CellText, Text: s} }

// List is a list.
func List(l ...api.Cell) api.Cell {
	return api.Cell{Kind: api.CellList, List: copyOf(l)}
}
