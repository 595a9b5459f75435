package tape

import (
	"bytes"

	"tailrace/api"
	"tailrace/reel"
	"tailrace/seal"
)

const (
	width  = 4 // bytes of a segment's first record
	around = 9 // bytes that a sealed record has beside the record's own
)

// segment is a file of a reel, as it was read.
type segment struct {
	file    int
	base    int
	records [][]byte // all behind the first one
}

// given tells whether layer 6 gave r: one that it gave has no file below 0 to
// drop, and says so; any other one refuses even to be asked.
func given(r *reel.Reel) bool { return r.Drop(-1) != api.ErrArg }

func (t *Tape) opened() bool { return t != nil && t.reel != nil }

// newest is the whole segment with the greatest number, and whether it is
// clean. If there is none it is one without records, which is not clean: the
// one and the other ask for a segment that is begun.
func newest(r *reel.Reel) (segment, bool) {
	files := r.Files()
	for i := len(files) - 1; i >= 0; i-- {
		b, _ := r.Read(files[i])
		row, took := seal.Row(b)
		if whole(row) {
			s := segment{file: files[i], base: int(number(row[0])), records: row[1:]}
			return s, took == len(b)
		}
	}
	return segment{}, false
}

// whole tells whether a row has a segment's first record, and its base.
func whole(row [][]byte) bool {
	return len(row) > 0 && len(row[0]) == width && uint64(number(row[0])) < uint64(len(row))
}

func number(b []byte) uint32 {
	return uint32(b[0])<<24 | uint32(b[1])<<16 | uint32(b[2])<<8 | uint32(b[3])
}

func numbered(n int) []byte {
	return []byte{byte(n >> 24), byte(n >> 16), byte(n >> 8), byte(n)}
}

// begin begins a segment with records none of which is too long. That there is
// room is asked ahead of sealing, so that what is refused costs little. What
// is told of the tape's records stays for the caller to turn.
func (t *Tape) begin(l [][]byte) api.Errno {
	file := above(t.reel.Files())
	if file > api.MaxFiles || size(l) > t.reel.Left() {
		return api.ErrFull
	}
	if e := t.reel.Append(file, sealed(l)); e != api.OK {
		return e
	}
	t.reel.Sync()
	t.file, t.base = file, len(l)
	t.dropOthers()
	return api.OK
}

// dropOthers leaves the segment's file alone on the reel, and keeps that.
// Where it is alone there is no Sync: nothing is to be kept then.
func (t *Tape) dropOthers() {
	files := t.reel.Files()
	if len(files) < 2 {
		return
	}
	for _, file := range files {
		if file != t.file {
			t.reel.Drop(file)
		}
	}
	t.reel.Sync()
}

// above is the number one above all of files, which are rising.
func above(files []int) int {
	if len(files) == 0 {
		return 0
	}
	return files[len(files)-1] + 1
}

// size is how many bytes a segment takes that is begun with l.
func size(l [][]byte) int {
	n := around + width
	for _, b := range l {
		n += around + len(b)
	}
	return n
}

// sealed is the row of a segment that is begun with l.
func sealed(l [][]byte) []byte {
	row, _ := seal.Record(numbered(len(l)))
	for _, b := range l {
		s, _ := seal.Record(b)
		row = append(row, s...)
	}
	return row
}

func tooLong(l [][]byte) bool {
	for _, b := range l {
		if len(b) > api.MaxRecord {
			return true
		}
	}
	return false
}

func copied(l [][]byte) [][]byte {
	all := make([][]byte, len(l))
	for i, b := range l {
		all[i] = bytes.Clone(b)
	}
	return all
}
