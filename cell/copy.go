package cell

import "tailrace/api"

// task is a list that is being copied, and how much of it is done.
type task struct {
	from, to []api.Cell
	done     int
}

// copier has the lists that are being copied, each within the one ahead, and
// their copies. A list that lies within itself has a copy that does, too: it
// has no end, and nothing else would come to one.
type copier struct {
	tasks []task
	made  map[place][]api.Cell
	round bool // a list within itself was met
}

func copyOf(l []api.Cell) []api.Cell {
	k := copier{made: map[place][]api.Cell{}}
	out := k.begin(l)
	for len(k.tasks) > 0 {
		k.step()
	}
	return out
}

func (k *copier) begin(l []api.Cell) []api.Cell {
	if len(l) == 0 {
		return nil
	}
	to := make([]api.Cell, len(l))
	k.tasks = append(k.tasks, task{from: l, to: to})
	k.made[placeOf(l)] = to
	return to
}

func (k *copier) step() {
	last := len(k.tasks) - 1
	t := &k.tasks[last]
	if t.done == len(t.from) {
		k.end(last)
		return
	}
	c := t.from[t.done]
	to := &t.to[t.done]
	t.done++
	*to = api.Cell{Kind: c.Kind, Num: c.Num, Text: c.Text}
	if len(c.List) > 0 {
		to.List = k.inner(c.List)
	}
}

func (k *copier) inner(l []api.Cell) []api.Cell {
	if made, ok := k.made[placeOf(l)]; ok {
		k.round = true
		return made
	}
	return k.begin(l)
}

// end forgets the copy, since no two lists of an answer share memory; but of a
// list without an end no such answer can be, and it is kept to come to one.
func (k *copier) end(last int) {
	if !k.round {
		delete(k.made, placeOf(k.tasks[last].from))
	}
	k.tasks = k.tasks[:last]
}
