package cell

import "tailrace/api"

// maxCountBytes is enough for the greatest count of a cell, the 2^54 of its
// greatest number; a reader that took more might run over an int's end.
const maxCountBytes = 8

// put appends the bytes of a cell that may be. It stops soon behind MaxBytes,
// so that nobody writes down texts that are refused then.
func put(b []byte, c api.Cell) []byte {
	if len(b) > api.MaxBytes {
		return b
	}
	b = append(b, byte(c.Kind))
	switch c.Kind {
	case api.CellNum:
		return putCount(b, countOf(c.Num))
	case api.CellText:
		return append(putCount(b, len(c.Text)), c.Text...)
	}
	b = putCount(b, len(c.List))
	for _, d := range c.List {
		b = put(b, d)
	}
	return b
}

func putCount(b []byte, n int) []byte {
	for n >= 0x80 {
		b = append(b, byte(n)|0x80)
		n >>= 7
	}
	return append(b, byte(n))
}

func countOf(n int) int {
	if n < 0 {
		return -2*n - 1
	}
	return 2 * n
}

func numOf(count int) int {
	if count%2 == 1 {
		return -(count / 2) - 1
	}
	return count / 2
}

// reader reads cells off the beginning of bytes; its methods tell false where
// there is none that may be.
type reader struct {
	rest  []byte
	cells int
}

func (r *reader) cell(level int) (api.Cell, bool) {
	if level > api.MaxDeep || r.cells == api.MaxCells || len(r.rest) == 0 {
		return api.Cell{}, false
	}
	r.cells++
	kind := int(r.rest[0])
	r.rest = r.rest[1:]
	n, ok := r.count()
	if !ok {
		return api.Cell{}, false
	}
	switch kind {
	case api.CellNum:
		return Num(numOf(n)), n <= countOf(api.MaxNum)
	case api.CellText:
		return r.text(n)
	case api.CellList:
		return r.list(n, level)
	}
	return api.Cell{}, false
}

func (r *reader) count() (int, bool) {
	n := 0
	for i := 0; i < len(r.rest) && i < maxCountBytes; i++ {
		x := r.rest[i]
		if i > 0 && x == 0 {
			return 0, false
		}
		n |= int(x&0x7f) << (7 * i)
		if x < 0x80 {
			r.rest = r.rest[i+1:]
			return n, true
		}
	}
	return 0, false
}

func (r *reader) text(n int) (api.Cell, bool) {
	if n > len(r.rest) {
		return api.Cell{}, false
	}
	s := string(r.rest[:n])
	r.rest = r.rest[n:]
	return Text(s), true
}

func (r *reader) list(n, level int) (api.Cell, bool) {
	if n > api.MaxCells-r.cells {
		return api.Cell{}, false
	}
	l := make([]api.Cell, n)
	for i := range l {
		c, ok := r.cell(level + 1)
		if !ok {
			return api.Cell{}, false
		}
		l[i] = c
	}
	return api.Cell{Kind: api.CellList, List: l}, true
}
