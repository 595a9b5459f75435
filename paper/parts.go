package paper

import (
	"slices"
	"strings"

	"tailrace/api"
	"tailrace/cell"
	"tailrace/rank"
)

func inWord(b byte) bool {
	return 'a' <= b && b <= 'z' || '0' <= b && b <= '9'
}

// within tells whether a path is another one, or begins with it and a point.
func within(path, top string) bool {
	rest, ok := strings.CutPrefix(path, top)
	return ok && (rest == "" || rest[0] == '.')
}

// find is where a path is, or would be, in a document that may be.
func find(d api.Doc, path string) (int, bool) {
	return slices.BinarySearchFunc(d, path, func(f api.Field, path string) int {
		return strings.Compare(f.Path, path)
	})
}

// pair is a list of two cells that nobody else has, so that they need not be
// copied, as cell.List does.
func pair(a, b api.Cell) api.Cell {
	return api.Cell{Kind: api.CellList, List: []api.Cell{a, b}}
}

func cellOf(v api.Value) api.Cell {
	switch v.Kind {
	case api.ValNum:
		return cell.Num(v.Num)
	case api.ValText:
		return cell.Text(v.Text)
	}
	return pair(cell.Num(v.Point.Re), cell.Num(v.Point.Im))
}

// read takes the fields off the places where a document's cell has them, and
// stops where one is missing, or one too many. Whatever else is there, Of sees,
// since it holds the cell of what was read against the one it was handed.
func read(c api.Cell) api.Doc {
	var d api.Doc
	for _, f := range c.List {
		if len(f.List) != 2 || len(d) == api.MaxFields {
			break
		}
		d = append(d, api.Field{Path: f.List[0].Text, Val: valueOf(f.List[1])})
	}
	return d
}

func valueOf(c api.Cell) api.Value {
	switch {
	case c.Kind == api.CellNum:
		return rank.Num(c.Num)
	case c.Kind == api.CellText:
		return rank.Text(c.Text)
	case len(c.List) == 2:
		return rank.Point(c.List[0].Num, c.List[1].Num)
	}
	return api.Value{}
}
