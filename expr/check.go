package expr

import (
	"tailrace/api"
	"tailrace/paper"
)

// maxNumber is the greatest number of 15 digits.
const maxNumber = 1_000_000_000_000_000 - 1

// fits tells whether an expression may be, and has so many levels at most. It
// looks into Args only where there are as many as their node asks for, so that
// it comes to its end soon, whatever lies there.
func fits(n api.Node, levels int) bool {
	if levels == 0 || !fitsAlone(n) {
		return false
	}
	for _, a := range n.Args {
		if !fits(a, levels-1) {
			return false
		}
	}
	return true
}

// fitsAlone tells whether a node may be, but for what its Args are.
func fitsAlone(n api.Node) bool {
	switch n.Kind {
	case api.NodePath:
		return paper.Path(n.Text) && !digits(n.Text) && n.Num == 0 && len(n.Args) == 0
	case api.NodeNum:
		return 0 <= n.Num && n.Num <= maxNumber && n.Text == "" && len(n.Args) == 0
	case api.NodeSum, api.NodeMul:
		return n.Text == "" && n.Num == 0 && len(n.Args) == 2
	case api.NodeCall:
		return isName(n.Text) && n.Num == 0 && len(n.Args) == 1
	}
	return false
}

func isName(s string) bool {
	switch s {
	case "norm", "conj", "turn", "low", "head":
		return true
	}
	return false
}

func digits(s string) bool {
	for i := 0; i < len(s); i++ {
		if s[i] < '0' || s[i] > '9' {
			return false
		}
	}
	return s != ""
}

// place is where a list lies in memory. Lists that share their memory, or lie
// within themselves, are told by it, so that nobody goes round for ever; what
// is answered does not hang on it.
type place struct {
	first *api.Node
	n     int
}

// placeOf is for lists that are not empty.
func placeOf(l []api.Node) place { return place{&l[0], len(l)} }

// tooDeep goes down level by level: a few lists, each of them many times in the
// next one, may be more nodes than anybody can count.
func tooDeep(n api.Node) bool {
	level := [][]api.Node{{n}}
	for range api.MaxTerm {
		level = below(level)
	}
	return len(level) > 0
}

// below is the lists, not empty, that are Args of a level's nodes, each once.
func below(level [][]api.Node) [][]api.Node {
	var out [][]api.Node
	seen := map[place]int{}
	for _, l := range level {
		for _, n := range l {
			if len(n.Args) == 0 {
				continue
			}
			p := placeOf(n.Args)
			if _, ok := seen[p]; !ok {
				seen[p] = len(out)
				out = append(out, n.Args)
			}
		}
	}
	return out
}
