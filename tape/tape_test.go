package tape_test

import (
	"bytes"
	"math"
	"strconv"
	"strings"
	"testing"

	"tailrace/api"
	"tailrace/reel"
	"tailrace/seal"
	"tailrace/tape"
)

const (
	wide = 9         // bytes of a sealed record beside its own
	bare = wide + 4  // bytes of a segment without records
	much = 1 << 12   // room enough
	most = 0xFFFFFFF // more units than a reel has
)

func newReel(t *testing.T, room int) *reel.Reel {
	t.Helper()
	r, e := reel.New(room)
	if e != api.OK {
		t.Fatalf("New(%d): error %d", room, e)
	}
	return r
}

func open(t *testing.T, r *reel.Reel) *tape.Tape {
	t.Helper()
	x, e := tape.Open(r)
	if e != api.OK || x == nil {
		t.Fatalf("Open: %v, error %d", x, e)
	}
	return x
}

func add(t *testing.T, x *tape.Tape, s string) {
	t.Helper()
	if e := x.Append([]byte(s)); e != api.OK {
		t.Fatalf("Append of %d bytes: error %d", len(s), e)
	}
}

func restart(t *testing.T, x *tape.Tape, l ...string) {
	t.Helper()
	if e := x.Restart(list(l...)); e != api.OK {
		t.Fatalf("Restart of %d: error %d", len(l), e)
	}
}

func list(l ...string) [][]byte {
	var all [][]byte
	for _, s := range l {
		all = append(all, []byte(s))
	}
	return all
}

func sealOf(t *testing.T, b []byte) []byte {
	t.Helper()
	s, e := seal.Record(b)
	if e != api.OK {
		t.Fatalf("Record: error %d", e)
	}
	return s
}

// row is a segment's bytes: a base, and records.
func row(t *testing.T, base uint32, l ...string) string {
	t.Helper()
	b := sealOf(t, []byte{byte(base >> 24), byte(base >> 16), byte(base >> 8), byte(base)})
	for _, s := range l {
		b = append(b, sealOf(t, []byte(s))...)
	}
	return string(b)
}

// put lays a file on a reel, and syncs.
func put(t *testing.T, r *reel.Reel, file int, s string) {
	t.Helper()
	if e := r.Append(file, []byte(s)); e != api.OK {
		t.Fatalf("Append to file %d: error %d", file, e)
	}
	r.Sync()
}

// told is all records, as text: `"a" "b"`.
func told(t *testing.T, x *tape.Tape) string {
	t.Helper()
	var l []string
	for i := range x.Len() {
		b, ok := x.Get(i)
		if !ok {
			t.Fatalf("Get(%d): false, of %d records", i, x.Len())
		}
		l = append(l, strconv.Quote(string(b)))
	}
	return strings.Join(l, " ")
}

// spelled is what told tells of records.
func spelled(l ...string) string {
	var all []string
	for _, s := range l {
		all = append(all, strconv.Quote(s))
	}
	return strings.Join(all, " ")
}

func wantTape(t *testing.T, x *tape.Tape, grown int, l ...string) {
	t.Helper()
	if s := told(t, x); s != spelled(l...) || x.Len() != len(l) || x.Grown() != grown {
		t.Fatalf("the records are %s, grown by %d; want %s, by %d", s, x.Grown(), spelled(l...), grown)
	}
}

type file struct {
	number int
	bytes  string
}

// wantReel asks for just these files, rising.
func wantReel(t *testing.T, r *reel.Reel, want ...file) {
	t.Helper()
	have := r.Files()
	if len(have) != len(want) {
		t.Fatalf("the files are %v, want %d of them", have, len(want))
	}
	for i, f := range want {
		b, _ := r.Read(have[i])
		if have[i] != f.number || string(b) != f.bytes {
			t.Fatalf("the file %d has %x; want the file %d, of %x", have[i], b, f.number, f.bytes)
		}
	}
}

func wantPending(t *testing.T, r *reel.Reel, n int) {
	t.Helper()
	if r.Pending() != n {
		t.Fatalf("Pending is %d, want %d", r.Pending(), n)
	}
}

// wantRefused asks that Open tells an error, and turns nothing.
func wantRefused(t *testing.T, r *reel.Reel, want api.Errno) {
	t.Helper()
	files, pending, left := shown(r), r.Pending(), r.Left()
	if x, e := tape.Open(r); x != nil || e != want {
		t.Fatalf("Open: %v, error %d; want error %d", x, e, want)
	}
	if shown(r) != files || r.Pending() != pending || r.Left() != left {
		t.Fatalf("Open that was refused turned the reel: %s, was %s", shown(r), files)
	}
}

// shown is all that a reel has, as text.
func shown(r *reel.Reel) string {
	var l []string
	for _, f := range r.Files() {
		b, _ := r.Read(f)
		l = append(l, strconv.Itoa(f)+":"+strconv.Quote(string(b)))
	}
	return strings.Join(l, " ")
}

// Ta1: Open

func TestOpenOfAReelThatWasNotGiven(t *testing.T) {
	for _, r := range []*reel.Reel{nil, {}} {
		if x, e := tape.Open(r); x != nil || e != api.ErrArg {
			t.Errorf("Open: %v, error %d", x, e)
		}
	}
}

func TestOpenOfAnEmptyReel(t *testing.T) {
	r := newReel(t, much)
	x := open(t, r)
	wantTape(t, x, 0)
	// The form to the byte: the length, its sum, a base of 0, its sum.
	b, _ := r.Read(0)
	if len(b) != bare || !bytes.Equal(b[:3], []byte{0, 0, 4}) || !bytes.Equal(b[6:10], make([]byte, 4)) {
		t.Errorf("the first segment is %x", b)
	}
	wantReel(t, r, file{0, row(t, 0)})
	wantPending(t, r, 0)
	r.Crash(0)
	wantReel(t, r, file{0, row(t, 0)})
}

func TestOpenWithoutRoom(t *testing.T) {
	for room := range bare {
		wantRefused(t, newReel(t, room), api.ErrFull)
	}
	r := newReel(t, bare)
	wantTape(t, open(t, r), 0)
	if r.Left() != 0 {
		t.Errorf("Left is %d", r.Left())
	}
	// What is there already needs no room.
	wantTape(t, open(t, r), 0)
}

func TestOpenOfAReelFullOfOtherFiles(t *testing.T) {
	r := newReel(t, bare+4)
	put(t, r, 2, "junk!")
	wantRefused(t, r, api.ErrFull)
	r = newReel(t, bare+5)
	put(t, r, 2, "junk!")
	wantTape(t, open(t, r), 0)
	wantReel(t, r, file{3, row(t, 0)})
	wantPending(t, r, 0)
}

func TestOpenWithoutANumberLeft(t *testing.T) {
	r := newReel(t, much)
	put(t, r, api.MaxFiles, "junk")
	wantRefused(t, r, api.ErrFull)

	r = newReel(t, much)
	put(t, r, api.MaxFiles, row(t, 1, "a")+"x")
	wantRefused(t, r, api.ErrFull)

	r = newReel(t, much)
	put(t, r, 4, row(t, 1, "a")+"x")
	put(t, r, api.MaxFiles, "")
	wantRefused(t, r, api.ErrFull)

	r = newReel(t, much)
	put(t, r, api.MaxFiles-1, row(t, 1, "a")+"x")
	wantTape(t, open(t, r), 0, "a")
	wantReel(t, r, file{api.MaxFiles, row(t, 1, "a")})
}

func TestOpenThatBeginsNothingNeedsNoNumber(t *testing.T) {
	r := newReel(t, much)
	put(t, r, 4, row(t, 1, "a"))
	put(t, r, api.MaxFiles, "junk")
	wantTape(t, open(t, r), 0, "a")
	wantReel(t, r, file{4, row(t, 1, "a")})

	r = newReel(t, much)
	put(t, r, api.MaxFiles, row(t, 0, "a"))
	x := open(t, r)
	wantTape(t, x, 1, "a")
	add(t, x, "b")
	wantReel(t, r, file{api.MaxFiles, row(t, 0, "a", "b")})
}

func TestOpenOfACleanSegment(t *testing.T) {
	for _, c := range []struct {
		base    uint32
		records []string
	}{
		{0, nil},
		{0, []string{"a"}},
		{1, []string{"a"}},
		{1, []string{"a", "", "c"}},
		{3, []string{"a", "", "c"}},
		{0, []string{"\x00\x00\x00\x09", strings.Repeat("z", 300)}},
	} {
		r := newReel(t, much)
		put(t, r, 6, row(t, c.base, c.records...))
		wantTape(t, open(t, r), len(c.records)-int(c.base), c.records...)
		wantReel(t, r, file{6, row(t, c.base, c.records...)})
	}
}

func TestOpenTakesTheGreatestThatIsWhole(t *testing.T) {
	r := newReel(t, much)
	put(t, r, 0, "junk")
	put(t, r, 3, row(t, 1, "old"))
	put(t, r, 5, row(t, 1, "new", "more"))
	put(t, r, 6, row(t, 2, "torn"))
	put(t, r, 9, "")
	wantTape(t, open(t, r), 1, "new", "more")
	wantReel(t, r, file{5, row(t, 1, "new", "more")})
	wantPending(t, r, 0)
	r.Crash(0)
	wantReel(t, r, file{5, row(t, 1, "new", "more")})
}

func TestOpenTakesTheGreatestAlsoIfAnotherIsCleanOrHasMore(t *testing.T) {
	r := newReel(t, much)
	put(t, r, 3, row(t, 1, "old", "old", "old"))
	put(t, r, 5, row(t, 1, "new")+"?")
	wantTape(t, open(t, r), 0, "new")
	wantReel(t, r, file{6, row(t, 1, "new")})
}

// notWhole is the bytes of files that are no whole segments.
func notWhole(t *testing.T) []string {
	t.Helper()
	turned := []byte(row(t, 1, "a"))
	turned[len(turned)-5] ^= 1
	long := []byte(row(t, 0))
	long[5] ^= 1
	return []string{
		"", "a", "a long text that is no row of records at all",
		row(t, 0)[:bare-1],
		row(t, 1), row(t, 2, "a"), row(t, 2, "a", "b")[:bare+2*wide+1],
		row(t, 256, "a"), row(t, 1<<16, "a"), row(t, 1<<24, "a"),
		row(t, 1<<31, "a"), row(t, math.MaxUint32, "a"),
		string(sealOf(t, nil)), string(sealOf(t, nil)) + row(t, 0),
		string(sealOf(t, []byte{0, 0, 0})), string(sealOf(t, []byte{0, 0, 0, 0, 0})),
		string(turned), string(long),
		"x" + row(t, 0),
	}
}

func TestOpenOfWhatIsNotWhole(t *testing.T) {
	for i, s := range notWhole(t) {
		r := newReel(t, much)
		put(t, r, 7, s)
		wantTape(t, open(t, r), 0)
		wantReel(t, r, file{8, row(t, 0)})

		r = newReel(t, much)
		put(t, r, 7, s)
		put(t, r, 2, row(t, 0, "a"))
		wantTape(t, open(t, r), 1, "a")
		wantReel(t, r, file{2, row(t, 0, "a")})
		if t.Failed() {
			t.Fatalf("of the file %d, %x", i, s)
		}
	}
}

func TestOpenOfWhatIsNotClean(t *testing.T) {
	tails := []string{"x", "\x00", row(t, 0)[:bare-1], string(sealOf(t, []byte("torn"))[:12])}
	for _, tail := range tails {
		r := newReel(t, much)
		put(t, r, 4, row(t, 1, "a", "b")+tail)
		put(t, r, 1, row(t, 0))
		put(t, r, 9, "junk")
		wantTape(t, open(t, r), 0, "a", "b")
		// Its number is above all that were there; what was appended is of the base.
		wantReel(t, r, file{10, row(t, 2, "a", "b")})
		wantPending(t, r, 0)
		r.Crash(0)
		wantReel(t, r, file{10, row(t, 2, "a", "b")})
	}
}

func TestOpenOfWhatIsNotCleanWithoutRoom(t *testing.T) {
	was := row(t, 1, "a") + "x"
	need := len(row(t, 1, "a"))
	r := newReel(t, len(was)+need-1)
	put(t, r, 4, was)
	wantRefused(t, r, api.ErrFull)
	r = newReel(t, len(was)+need)
	put(t, r, 4, was)
	wantTape(t, open(t, r), 0, "a")
	wantReel(t, r, file{5, row(t, 1, "a")})
}

func TestOpenSyncsJustWhatItDid(t *testing.T) {
	// A clean segment alone: nothing is done, not even a Sync.
	r := newReel(t, much)
	if e := r.Append(4, []byte(row(t, 0, "a"))); e != api.OK {
		t.Fatalf("Append: error %d", e)
	}
	wantTape(t, open(t, r), 1, "a")
	wantPending(t, r, len(row(t, 0, "a")))
	// A clean one beside others: they go, and Sync.
	if e := r.Append(3, []byte("junk")); e != api.OK {
		t.Fatalf("Append: error %d", e)
	}
	wantTape(t, open(t, r), 1, "a")
	wantPending(t, r, 0)
}

// scattered is a reel with a whole segment in file 5, and others about it.
func scattered(t *testing.T, tail string) *reel.Reel {
	t.Helper()
	r := newReel(t, much)
	put(t, r, 8, "")
	put(t, r, 5, row(t, 0, "a")+tail)
	put(t, r, 2, "y")
	put(t, r, 0, "x")
	return r
}

func TestOpenDropsRising(t *testing.T) {
	a := file{5, row(t, 0, "a")}
	want := [][]file{
		{{0, "x"}, {2, "y"}, a, {8, ""}},
		{{2, "y"}, a, {8, ""}},
		{a, {8, ""}},
		{a},
	}
	for n, files := range want {
		r := scattered(t, "")
		r.Arm(n)
		wantTape(t, open(t, r), 1, "a")
		r.Crash(most)
		wantReel(t, r, files...)
	}
}

func TestABegunSegmentIsSyncedAheadOfTheDropsWhichAreRising(t *testing.T) {
	torn, begun := file{5, row(t, 0, "a") + "?"}, file{9, row(t, 1, "a")}
	want := [][]file{
		{{0, "x"}, {2, "y"}, torn, {8, ""}, begun},
		{{2, "y"}, torn, {8, ""}, begun},
		{torn, {8, ""}, begun},
		{{8, ""}, begun},
		{begun},
	}
	for n, files := range want {
		r := scattered(t, "?")
		r.Arm(len(begun.bytes) + n)
		wantTape(t, open(t, r), 0, "a")
		if n < 4 {
			wantPending(t, r, n)
		}
		r.Crash(most)
		wantReel(t, r, files...)

		r = scattered(t, "?")
		r.Arm(len(begun.bytes) + min(n, 3))
		open(t, r)
		r.Crash(0)
		wantReel(t, r, want[0]...)
	}
}

// Ta1: Append

func TestAppendPutsBehind(t *testing.T) {
	r := newReel(t, much)
	x := open(t, r)
	var l []string
	for i, s := range []string{"a", "", "\x00\x00\x00\x07", "bcd", "", strings.Repeat("e", 400)} {
		add(t, x, s)
		l = append(l, s)
		wantTape(t, x, i+1, l...)
		wantReel(t, r, file{0, row(t, 0, l...)})
		wantPending(t, r, 0)
	}
	r.Crash(0)
	wantReel(t, r, file{0, row(t, 0, l...)})
	wantTape(t, open(t, r), len(l), l...)
}

func TestAppendOfNilIsAnEmptyRecord(t *testing.T) {
	r := newReel(t, much)
	x := open(t, r)
	if e := x.Append(nil); e != api.OK {
		t.Fatalf("Append(nil): error %d", e)
	}
	wantTape(t, x, 1, "")
	wantTape(t, open(t, r), 1, "")
}

func TestAppendOfTheLongest(t *testing.T) {
	r := newReel(t, 3*api.MaxRecord)
	x := open(t, r)
	for _, n := range []int{api.MaxRecord + 1, api.MaxRecord + 2, 1 << 17} {
		if e := x.Append(make([]byte, n)); e != api.ErrLong {
			t.Errorf("Append of %d bytes: error %d", n, e)
		}
	}
	wantTape(t, x, 0)
	wantReel(t, r, file{0, row(t, 0)})
	long := strings.Repeat("l", api.MaxRecord)
	add(t, x, long)
	wantTape(t, x, 1, long)
	wantTape(t, open(t, r), 1, long)
}

func TestAppendWithoutRoom(t *testing.T) {
	r := newReel(t, bare+wide+5)
	x := open(t, r)
	if e := x.Append([]byte("abcdef")); e != api.ErrFull {
		t.Fatalf("Append: error %d", e)
	}
	// ErrLong is told ahead of it.
	if e := x.Append(make([]byte, api.MaxRecord+1)); e != api.ErrLong {
		t.Fatalf("Append of too many bytes: error %d", e)
	}
	wantTape(t, x, 0)
	wantReel(t, r, file{0, row(t, 0)})
	wantPending(t, r, 0)
	add(t, x, "abcde")
	if e := x.Append(nil); e != api.ErrFull {
		t.Fatalf("Append to a full reel: error %d", e)
	}
	wantTape(t, x, 1, "abcde")
	wantTape(t, open(t, r), 1, "abcde")
}

func TestAppendGoesToTheSegmentsFile(t *testing.T) {
	r := newReel(t, much)
	put(t, r, 11, row(t, 1, "a"))
	x := open(t, r)
	add(t, x, "b")
	wantReel(t, r, file{11, row(t, 1, "a", "b")})
	restart(t, x, "c")
	add(t, x, "d")
	wantReel(t, r, file{12, row(t, 1, "c", "d")})
	put(t, r, 12, "?")
	y := open(t, r)
	add(t, y, "e")
	wantTape(t, y, 1, "c", "d", "e")
	wantReel(t, r, file{13, row(t, 2, "c", "d", "e")})
}

// Ta1: Restart

func TestRestart(t *testing.T) {
	r := newReel(t, much)
	x := open(t, r)
	add(t, x, "a")
	lists := [][]string{{"x", "y"}, {"", "\x00\x00\x00\x05", ""}, nil, {"z"}, {strings.Repeat("w", 500)}}
	for i, l := range lists {
		restart(t, x, l...)
		wantTape(t, x, 0, l...)
		wantReel(t, r, file{i + 1, row(t, uint32(len(l)), l...)})
		wantPending(t, r, 0)
		wantTape(t, open(t, r), 0, l...)
		add(t, x, "more")
		wantTape(t, x, 1, append(l, "more")...)
		wantTape(t, open(t, r), 1, append(l, "more")...)
	}
}

func TestRestartOfManyRecords(t *testing.T) {
	r := newReel(t, api.MaxRoom)
	x := open(t, r)
	// A base that takes more than one byte to write.
	l := make([]string, 70000)
	if e := x.Restart(list(l...)); e != api.OK {
		t.Fatalf("Restart: error %d", e)
	}
	if b, _ := r.Read(1); !bytes.HasPrefix(b, []byte(row(t, 70000))) || len(b) != bare+wide*70000 {
		t.Errorf("the segment has %d bytes, at first %x", len(b), b[:bare])
	}
	if y := open(t, r); y.Len() != 70000 || y.Grown() != 0 {
		t.Errorf("opened anew: %d records, grown by %d", y.Len(), y.Grown())
	}
}

func TestRestartOfTheLongest(t *testing.T) {
	r := newReel(t, much)
	x := open(t, r)
	add(t, x, "a")
	long := strings.Repeat("l", api.MaxRecord+1)
	// It is told wherever it stands, ahead of ErrFull.
	for _, l := range [][]string{{long}, {"a", long}, {long, "a"}, {long[1:], long}, {long, long[1:]}} {
		if e := x.Restart(list(l...)); e != api.ErrLong {
			t.Errorf("Restart: error %d", e)
		}
	}
	wantTape(t, x, 1, "a")
	wantReel(t, r, file{0, row(t, 0, "a")})

	r = newReel(t, 4*api.MaxRecord)
	x = open(t, r)
	restart(t, x, long[1:], "b", long[1:])
	wantTape(t, open(t, r), 0, long[1:], "b", long[1:])
}

func TestRestartWithoutRoom(t *testing.T) {
	// What is there has its room still while the segment is begun.
	there, need := row(t, 0, "abc"), row(t, 2, "x", "yz")
	for short := 1; short >= 0; short-- {
		r := newReel(t, len(there)+len(need)-short)
		x := open(t, r)
		add(t, x, "abc")
		e := x.Restart(list("x", "yz"))
		if short == 1 {
			if e != api.ErrFull {
				t.Fatalf("Restart: error %d", e)
			}
			wantTape(t, x, 1, "abc")
			wantReel(t, r, file{0, there})
			wantPending(t, r, 0)
			add(t, x, "d")
			wantTape(t, open(t, r), 2, "abc", "d")
			continue
		}
		if e != api.OK {
			t.Fatalf("Restart: error %d", e)
		}
		wantTape(t, x, 0, "x", "yz")
		wantReel(t, r, file{1, need})
	}
}

func TestRestartCountsAllFilesAndDropsThem(t *testing.T) {
	r := newReel(t, 2*bare+10)
	x := open(t, r)
	put(t, r, 40, "0123456789")
	put(t, r, 20, "")
	if e := x.Restart(list("")); e != api.ErrFull {
		t.Fatalf("Restart: error %d", e)
	}
	wantReel(t, r, file{0, row(t, 0)}, file{20, ""}, file{40, "0123456789"})
	restart(t, x)
	wantReel(t, r, file{41, row(t, 0)})
}

func TestRestartWithoutANumberLeft(t *testing.T) {
	r := newReel(t, much)
	put(t, r, api.MaxFiles-1, row(t, 1, "a"))
	x := open(t, r)
	restart(t, x, "b")
	wantReel(t, r, file{api.MaxFiles, row(t, 1, "b")})
	add(t, x, "c")
	if e := x.Restart(list("d")); e != api.ErrFull {
		t.Fatalf("Restart: error %d", e)
	}
	if e := x.Restart([][]byte{make([]byte, api.MaxRecord+1)}); e != api.ErrLong {
		t.Fatalf("Restart of too many bytes: error %d", e)
	}
	wantTape(t, x, 1, "b", "c")
	wantReel(t, r, file{api.MaxFiles, row(t, 1, "b", "c")})
	wantPending(t, r, 0)
	add(t, x, "e")
	wantTape(t, open(t, r), 2, "b", "c", "e")
}

// Ta1: Len, Get, Grown

func TestGetOfWhatIsNotThere(t *testing.T) {
	x := open(t, newReel(t, much))
	for n := range 3 {
		for _, i := range []int{math.MinInt, -1, n, n + 1, math.MaxInt} {
			if b, ok := x.Get(i); ok || len(b) != 0 {
				t.Errorf("Get(%d) of %d records = %q, %v", i, n, b, ok)
			}
		}
		add(t, x, "a")
	}
}

func TestGrown(t *testing.T) {
	r := newReel(t, much)
	put(t, r, 3, row(t, 2, "a", "b", "c"))
	x := open(t, r)
	wantTape(t, x, 1, "a", "b", "c")
	add(t, x, "d")
	wantTape(t, x, 2, "a", "b", "c", "d")
	wantTape(t, open(t, r), 2, "a", "b", "c", "d")
	restart(t, x, "a", "b", "c", "d")
	wantTape(t, x, 0, "a", "b", "c", "d")
	wantTape(t, open(t, r), 0, "a", "b", "c", "d")
}

// R1

func TestATapeThatWasNotGiven(t *testing.T) {
	for _, x := range []*tape.Tape{nil, {}} {
		for _, b := range [][]byte{nil, []byte("a"), make([]byte, api.MaxRecord+1)} {
			if e := x.Append(b); e != api.ErrArg {
				t.Errorf("Append of %d bytes: error %d", len(b), e)
			}
			if e := x.Restart([][]byte{b}); e != api.ErrArg {
				t.Errorf("Restart of %d bytes: error %d", len(b), e)
			}
		}
		if e := x.Restart(nil); e != api.ErrArg {
			t.Errorf("Restart(nil): error %d", e)
		}
		if x.Len() != 0 || x.Grown() != 0 {
			t.Errorf("Len %d, Grown %d", x.Len(), x.Grown())
		}
		for _, i := range []int{math.MinInt, -1, 0, 1, math.MaxInt} {
			if b, ok := x.Get(i); ok || len(b) != 0 {
				t.Errorf("Get(%d) = %q, %v", i, b, ok)
			}
		}
	}
}

func TestNothingIsKeptOnAReelWhosePowerIsGone(t *testing.T) {
	r := newReel(t, much)
	r.Arm(0)
	x := open(t, r)
	add(t, x, "a")
	restart(t, x, "b", "c")
	wantTape(t, x, 0, "b", "c")
	wantTape(t, open(t, r), 0, "b", "c")
	r.Crash(most)
	wantReel(t, r)
	wantTape(t, open(t, r), 0)
}

// R3

// spoil turns all of a list's room, that behind its end too.
func spoil(b []byte) {
	b = b[:cap(b)]
	for i := range b {
		b[i] = '#'
	}
}

func TestWhatIsHandedInIsNeitherChangedNorKept(t *testing.T) {
	r := newReel(t, much)
	x := open(t, r)
	room := []byte("abcdefgh")
	if e := x.Append(room[2:5]); e != api.OK || string(room) != "abcdefgh" {
		t.Fatalf("Append: error %d, and what was handed in is %q", e, room)
	}
	spoil(room)
	wantTape(t, x, 1, "cde")

	room = []byte("abcdefgh")
	l := [][]byte{room[:2], room[1:4], nil, room[4:5], []byte("spare")}
	if e := x.Restart(l[:4]); e != api.OK || string(room) != "abcdefgh" || string(l[4]) != "spare" {
		t.Fatalf("Restart: error %d, and what was handed in is %q, %q", e, room, l)
	}
	spoil(room)
	clear(l)
	wantTape(t, x, 0, "ab", "bcd", "", "e")
	add(t, x, "f")
	if l[4] != nil {
		t.Errorf("Append wrote into a list that was handed in: %q", l)
	}
	wantTape(t, open(t, r), 1, "ab", "bcd", "", "e", "f")
}

func TestAnswersShareNothing(t *testing.T) {
	r := newReel(t, much)
	x := open(t, r)
	add(t, x, "abc")
	add(t, x, "def")
	// Of records that were appended, read, and begun with.
	for _, y := range []*tape.Tape{x, open(t, r)} {
		first, _ := y.Get(0)
		second, _ := y.Get(0)
		spoil(first)
		if string(second) != "abc" {
			t.Errorf("two answers share memory: %q", second)
		}
		wantTape(t, y, 2, "abc", "def")
	}
	restart(t, x, "ghi", "jkl")
	b, _ := x.Get(0)
	spoil(b)
	wantTape(t, x, 0, "ghi", "jkl")
	wantTape(t, open(t, r), 0, "ghi", "jkl")
}
