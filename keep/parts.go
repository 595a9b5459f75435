package keep

import (
	"bytes"
	"slices"

	"tailrace/api"
	"tailrace/reel"
	"tailrace/tape"
)

// kind is a record's first byte: what the record does.
type kind byte

const (
	entry kind = iota // an entry more
	note              // the note
	none              // no entries
	first             // the first entries, so many
)

const (
	width = 4  // bytes of a number
	grown = 64 // records more with which a tape is begun anew
)

func (k *Keep) opened() bool { return k != nil && k.tape != nil }

// strange tells whether a reel's tape has a record that is none of a keep's.
// To open a tape may turn its reel, and what is refused must stay as it is: so
// the tape is that of a twin. What can't be opened is left for who opens the
// reel itself to tell.
func strange(r *reel.Reel) bool {
	t, e := tape.Open(twin(r))
	if e != api.OK {
		return false
	}
	for i := range t.Len() {
		if record, _ := t.Get(i); !known(record) {
			return true
		}
	}
	return false
}

// twin is a reel with the files of r, and with just as much room.
func twin(r *reel.Reel) *reel.Reel {
	room := r.Left()
	for _, file := range r.Files() {
		b, _ := r.Read(file)
		room += len(b)
	}
	other, _ := reel.New(room)
	for _, file := range r.Files() {
		b, _ := r.Read(file)
		other.Append(file, b)
	}
	return other
}

// known tells whether a record is one of a keep's.
func known(record []byte) bool {
	if len(record) == 0 {
		return false
	}
	switch kind(record[0]) {
	case entry, note:
		return true
	case none:
		return len(record) == 1
	case first:
		return len(record) == 1+width
	}
	return false
}

// do appends a record, and does what it says. That b is too long is asked
// ahead of copying it.
func (k *Keep) do(what kind, b []byte) api.Errno {
	if !k.opened() {
		return api.ErrArg
	}
	if len(b) > api.MaxRecord-1 {
		return api.ErrLong
	}
	record := append([]byte{byte(what)}, b...)
	if e := k.tape.Append(record); e != api.OK {
		return e
	}
	k.turn(record)
	k.renew()
	return api.OK
}

// turn does what a record says, which is a known one, and keeps its memory.
func (k *Keep) turn(record []byte) {
	switch kind(record[0]) {
	case entry:
		k.entries = append(k.entries, record)
	case note:
		k.note = record
	case none:
		k.entries = nil
	case first:
		k.cut(number(record[1:]))
	}
}

// cut forgets all entries but the first n; Delete lets go of their memory too.
func (k *Keep) cut(n uint32) {
	if uint64(n) < uint64(len(k.entries)) {
		k.entries = slices.Delete(k.entries, int(n), len(k.entries))
	}
}

// renew begins a tape anew that has grown much. Where that is refused there is
// no room, and the tape goes on as it is.
func (k *Keep) renew() {
	if k.tape.Grown() < grown {
		return
	}
	var l [][]byte
	if len(k.note) > 1 {
		l = append(l, k.note)
	}
	k.tape.Restart(append(l, k.entries...))
}

// behind is what stands behind a record's first byte, as new memory; of no
// record it is nothing.
func behind(record []byte) []byte {
	if len(record) == 0 {
		return nil
	}
	return bytes.Clone(record[1:])
}

func number(b []byte) uint32 {
	return uint32(b[0])<<24 | uint32(b[1])<<16 | uint32(b[2])<<8 | uint32(b[3])
}

func numbered(n int) []byte {
	return []byte{byte(n >> 24), byte(n >> 16), byte(n >> 8), byte(n)}
}
