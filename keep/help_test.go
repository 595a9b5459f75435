package keep_test

import (
	"strconv"
	"strings"
	"testing"

	"tailrace/api"
	"tailrace/keep"
	"tailrace/reel"
	"tailrace/seal"
	"tailrace/tape"
)

const (
	wide = 9         // bytes of a sealed record beside its own
	bare = wide + 4  // bytes of a segment without records
	much = 1 << 14   // room enough
	most = 0xFFFFFFF // more units than a reel has
	grow = 64        // records with which a tape is begun anew
)

func newReel(t *testing.T, room int) *reel.Reel {
	t.Helper()
	r, e := reel.New(room)
	if e != api.OK {
		t.Fatalf("New(%d): error %d", room, e)
	}
	return r
}

func open(t *testing.T, r *reel.Reel) *keep.Keep {
	t.Helper()
	k, e := keep.Open(r)
	if e != api.OK || k == nil {
		t.Fatalf("Open: %v, error %d", k, e)
	}
	return k
}

// wantErr asks for an error, also for none.
func wantErr(t *testing.T, what string, e, want api.Errno) {
	t.Helper()
	if e != want {
		t.Fatalf("%s: error %d, want %d", what, e, want)
	}
}

func add(t *testing.T, k *keep.Keep, l ...string) {
	t.Helper()
	for _, s := range l {
		wantErr(t, "Add", k.Add([]byte(s)), api.OK)
	}
}

func note(t *testing.T, k *keep.Keep, s string) {
	t.Helper()
	wantErr(t, "Note", k.Note([]byte(s)), api.OK)
}

func cut(t *testing.T, k *keep.Keep, n int) {
	t.Helper()
	wantErr(t, "Cut", k.Cut(n), api.OK)
}

func empty(t *testing.T, k *keep.Keep) {
	t.Helper()
	wantErr(t, "Clear", k.Clear(), api.OK)
}

// spelled is a note and entries as text: `"n": "a" "b"`.
func spelled(note string, l ...string) string {
	var b strings.Builder
	b.WriteString(strconv.Quote(note) + ":")
	for _, s := range l {
		b.WriteString(" " + strconv.Quote(s))
	}
	return b.String()
}

// told is what a keep has, as text; Len, Get and All must tell the same.
func told(t *testing.T, k *keep.Keep) string {
	t.Helper()
	var l []string
	all := k.All()
	if len(all) != k.Len() {
		t.Fatalf("All has %d entries, Len is %d", len(all), k.Len())
	}
	for i, b := range all {
		c, ok := k.Get(i)
		if !ok || string(c) != string(b) {
			t.Fatalf("Get(%d) = %q, %v; All has %q", i, c, ok, b)
		}
		l = append(l, string(b))
	}
	return spelled(string(k.Noted()), l...)
}

func wantKeep(t *testing.T, k *keep.Keep, note string, l ...string) {
	t.Helper()
	if s := told(t, k); s != spelled(note, l...) {
		t.Fatalf("the keep has %s; want %s", s, spelled(note, l...))
	}
}

func sealOf(t *testing.T, b []byte) []byte {
	t.Helper()
	s, e := seal.Record(b)
	wantErr(t, "Record", e, api.OK)
	return s
}

// row is a segment's bytes: a base, and records.
func row(t *testing.T, base int, l ...string) string {
	t.Helper()
	b := sealOf(t, []byte{byte(base >> 24), byte(base >> 16), byte(base >> 8), byte(base)})
	for _, s := range l {
		b = append(b, sealOf(t, []byte(s))...)
	}
	return string(b)
}

// put lays a file on a reel, and syncs.
func put(t *testing.T, r *reel.Reel, file int, s string) {
	t.Helper()
	wantErr(t, "Append to a file", r.Append(file, []byte(s)), api.OK)
	r.Sync()
}

// taped is a reel whose tape has these records.
func taped(t *testing.T, l ...string) *reel.Reel {
	t.Helper()
	r := newReel(t, much)
	x, e := tape.Open(r)
	wantErr(t, "Open of a tape", e, api.OK)
	for _, s := range l {
		wantErr(t, "Append", x.Append([]byte(s)), api.OK)
	}
	return r
}

type file struct {
	number int
	bytes  string
}

// filesOf is all files of a reel, as they are seen.
func filesOf(r *reel.Reel) []file {
	var all []file
	for _, n := range r.Files() {
		b, _ := r.Read(n)
		all = append(all, file{n, string(b)})
	}
	return all
}

// wantReel asks for just these files, rising, and for nothing that is not synced.
func wantReel(t *testing.T, r *reel.Reel, want ...file) {
	t.Helper()
	have := filesOf(r)
	if len(have) != len(want) {
		t.Fatalf("the files are %v, want %d of them", r.Files(), len(want))
	}
	for i, f := range want {
		if have[i] != f {
			t.Fatalf("the file %d has %x; want the file %d, of %x", have[i].number, have[i].bytes, f.number, f.bytes)
		}
	}
	if r.Pending() != 0 {
		t.Fatalf("%d units are not synced", r.Pending())
	}
}

// times is a list of n texts that are alike.
func times(n int, s string) []string {
	var l []string
	for range n {
		l = append(l, s)
	}
	return l
}

// entries is the records of entries.
func entries(l ...string) []string {
	var all []string
	for _, s := range l {
		all = append(all, "\x00"+s)
	}
	return all
}
