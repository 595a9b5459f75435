package reel

// deed is one thing that was done, and what it takes to undo it.
type deed struct {
	file  int
	units int
	fresh bool // an appending to a file that was not there
	drop  bool
	lost  []byte // what a file had that was dropped
}

// given tells whether New gave it: of no other one there are files to write to.
func (r *Reel) given() bool { return r != nil && r.files != nil }

// note puts a deed behind the others. Its units count as far as the power
// lasts; it is noted also where none does, since a crash must undo it.
func (r *Reel) note(d deed) {
	r.done = append(r.done, d)
	if r.gone {
		return
	}
	n := d.units
	if r.armed {
		n = min(n, r.left)
		r.left -= n
		r.gone = n < d.units
	}
	r.count += n
}

// settle lets all stand as it is now: nothing is left to undo.
func (r *Reel) settle() { r.done, r.count = nil, 0 }

// undo takes back what is not synced, the last deed first, but keep units. A
// deed without units stays just if it has none ahead that is taken back.
func (r *Reel) undo(keep int) {
	whole := 0
	for whole < len(r.done) && r.done[whole].units <= keep {
		keep -= r.done[whole].units
		whole++
	}
	for i := len(r.done) - 1; i > whole; i-- {
		r.takeBack(r.done[i], 0)
	}
	if whole < len(r.done) {
		r.takeBack(r.done[whole], keep)
	}
}

// takeBack undoes a deed behind which nothing is done any more, but its first
// keep units, which are fewer than it has (or none).
func (r *Reel) takeBack(d deed, keep int) {
	if d.drop {
		r.files[d.file] = d.lost
		r.used += len(d.lost)
		return
	}
	cut := d.units - keep
	r.used -= cut
	if d.fresh && keep == 0 {
		delete(r.files, d.file)
		return
	}
	b := r.files[d.file]
	r.files[d.file] = b[:len(b)-cut]
}
