package keep_test

import (
	"bytes"
	"math"
	"slices"
	"strings"
	"testing"

	"tailrace/api"
	"tailrace/keep"
	"tailrace/reel"
	"tailrace/tape"
)

func TestTheExample(t *testing.T) {
	r := newReel(t, much)
	k := open(t, r)
	add(t, k, "a", "b")
	cut(t, k, 1)
	r.Crash(0)
	wantKeep(t, open(t, r), "", "a")
}

// Ke1: Open

func TestOpenOfAnEmptyReel(t *testing.T) {
	r := newReel(t, bare)
	wantKeep(t, open(t, r), "")
	wantReel(t, r, file{0, row(t, 0)})
}

func wantRefused(t *testing.T, r *reel.Reel, want api.Errno) {
	t.Helper()
	if k, e := keep.Open(r); k != nil || e != want {
		t.Fatalf("Open: %v, error %d; want error %d", k, e, want)
	}
}

func TestOpenRefusesWhatATapeRefuses(t *testing.T) {
	wantRefused(t, nil, api.ErrArg)
	wantRefused(t, &reel.Reel{}, api.ErrArg)
	for _, room := range []int{0, 1, bare - 1} {
		r := newReel(t, room)
		wantRefused(t, r, api.ErrFull)
		wantReel(t, r)
	}
	// No number is left for a segment that must be begun.
	r := newReel(t, much)
	put(t, r, api.MaxFiles, "no segment")
	wantRefused(t, r, api.ErrFull)
	wantReel(t, r, file{api.MaxFiles, "no segment"})
}

func TestOpenWithoutRoomTellsSoFirst(t *testing.T) {
	torn := row(t, 0, "\x09strange") + "torn"
	need := len(torn) + len(row(t, 1, "\x09strange"))
	for short, want := range []api.Errno{api.ErrText, api.ErrFull} {
		r := newReel(t, need-short)
		put(t, r, 3, torn)
		wantRefused(t, r, want)
		wantReel(t, r, file{3, torn})
	}
}

// strangers are records that are none of a keep's.
func strangers() []string {
	return []string{
		"", "\x04", "\x04abcd", "\x05", "\x7f", "\x80", "\xff", "0", "a",
		"\x02x", "\x02\x00", "\x02\x00\x00\x00\x00",
		"\x03", "\x03\x00", "\x03\x00\x00\x00", "\x03\x00\x00\x00\x00\x00",
	}
}

func TestOpenOfStrangeRecords(t *testing.T) {
	for _, s := range strangers() {
		for _, l := range [][]string{
			{s},
			{s, "\x00a"},
			{"\x00a", "\x01n", s},
			{"\x00a", s, "\x02"},
		} {
			r := taped(t, l...)
			wantRefused(t, r, api.ErrText)
			wantReel(t, r, file{0, row(t, 0, l...)})
		}
	}
}

// R2: a tape's own Open would begin a segment here, or drop files, or sync.
func TestAReelWithStrangeRecordsStaysAsItIs(t *testing.T) {
	for _, s := range strangers() {
		whole := row(t, 0, "\x00a", s)
		for _, files := range [][]file{
			{{0, whole + "torn"}},
			{{0, "older"}, {2, whole}},
			{{1, row(t, 1, "\x00a")}, {2, whole}, {5, ""}, {9, "torn"}},
		} {
			r := newReel(t, much)
			for _, f := range files {
				put(t, r, f.number, f.bytes)
			}
			wantRefused(t, r, api.ErrText)
			wantReel(t, r, files...)
			wantErr(t, "Append", r.Append(0, []byte("xyz")), api.OK)
			wantRefused(t, r, api.ErrText)
			if r.Pending() != 3 {
				t.Fatalf("%d units are not synced, want 3", r.Pending())
			}
			r.Arm(0)
			wantRefused(t, r, api.ErrText)
			if r.Gone() {
				t.Fatal("the power went in an Open that was refused")
			}
		}
	}
}

func TestOpenDoesNotMindWhatIsNoSegment(t *testing.T) {
	r := newReel(t, much)
	put(t, r, 1, row(t, 0, "\x09strange"))
	put(t, r, 4, row(t, 1, "\x00a", "\x01n")+"torn")
	put(t, r, 6, row(t, 2, "\x09strange"))
	wantKeep(t, open(t, r), "n", "a")
	wantReel(t, r, file{7, row(t, 2, "\x00a", "\x01n")})
}

func TestOpenReadsItsRecordsOneBehindTheOther(t *testing.T) {
	for _, c := range []struct {
		records []string
		note    string
		entries []string
	}{
		{nil, "", nil},
		{[]string{"\x00"}, "", []string{""}},
		{[]string{"\x00a", "\x00", "\x00\x00\x01"}, "", []string{"a", "", "\x00\x01"}},
		{[]string{"\x01n"}, "n", nil},
		{[]string{"\x01n", "\x01m"}, "m", nil},
		{[]string{"\x01n", "\x01"}, "", nil},
		{[]string{"\x01n", "\x00a", "\x02"}, "n", nil},
		{[]string{"\x02", "\x00a", "\x02", "\x00b"}, "", []string{"b"}},
		{[]string{"\x00a", "\x00b", "\x00c", "\x03\x00\x00\x00\x02"}, "", []string{"a", "b"}},
		{[]string{"\x00a", "\x00b", "\x03\x00\x00\x00\x01", "\x00c"}, "", []string{"a", "c"}},
		{[]string{"\x00a", "\x01n", "\x03\x00\x00\x00\x00"}, "n", nil},
		// A number that is not below how many there are: all.
		{[]string{"\x03\x00\x00\x00\x00"}, "", nil},
		{[]string{"\x03\x00\x00\x00\x05", "\x00a"}, "", []string{"a"}},
		{[]string{"\x00a", "\x00b", "\x03\x00\x00\x00\x02"}, "", []string{"a", "b"}},
		{[]string{"\x00a", "\x00b", "\x03\x00\x00\x00\x03"}, "", []string{"a", "b"}},
		{[]string{"\x00a", "\x00b", "\x03\x01\x00\x00\x00"}, "", []string{"a", "b"}},
		{[]string{"\x00a", "\x00b", "\x03\x00\x01\x00\x01"}, "", []string{"a", "b"}},
		{[]string{"\x00a", "\x00b", "\x03\x80\x00\x00\x00"}, "", []string{"a", "b"}},
		{[]string{"\x00a", "\x00b", "\x03\xff\xff\xff\xff"}, "", []string{"a", "b"}},
	} {
		r := taped(t, c.records...)
		wantKeep(t, open(t, r), c.note, c.entries...)
		wantReel(t, r, file{0, row(t, 0, c.records...)})
	}
}

func TestOpenReadsANumberOfFourBytes(t *testing.T) {
	for _, c := range []struct {
		record string
		n      int
	}{
		{"\x03\x00\x00\x01\x02", 0x102},
		{"\x03\x00\x01\x00\x02", 0x10002},
		{"\x03\x00\x01\x02\x03", 0x10203},
	} {
		r := newReel(t, api.MaxRoom)
		put(t, r, 0, row(t, c.n+5, append(times(c.n+5, "\x00"), c.record)...))
		if n := open(t, r).Len(); n != c.n {
			t.Errorf("Len = %d, want %d", n, c.n)
		}
	}
}

// Ke1: Add, Note, Clear, Cut

func TestEachCallAppendsItsRecord(t *testing.T) {
	r := newReel(t, much)
	k := open(t, r)
	var records []string
	want := func(record, note string, l ...string) {
		t.Helper()
		records = append(records, record)
		wantKeep(t, k, note, l...)
		wantReel(t, r, file{0, row(t, 0, records...)})
		wantKeep(t, open(t, r), note, l...)
	}
	add(t, k, "a")
	want("\x00a", "", "a")
	add(t, k, "")
	want("\x00", "", "a", "")
	note(t, k, "n")
	want("\x01n", "n", "a", "")
	add(t, k, "\x03bc")
	want("\x00\x03bc", "n", "a", "", "\x03bc")
	note(t, k, "n")
	want("\x01n", "n", "a", "", "\x03bc")
	cut(t, k, 2)
	want("\x03\x00\x00\x00\x02", "n", "a", "")
	note(t, k, "")
	want("\x01", "", "a", "")
	cut(t, k, 0)
	want("\x03\x00\x00\x00\x00", "")
	add(t, k, "d")
	want("\x00d", "", "d")
	empty(t, k)
	want("\x02", "")
	empty(t, k)
	want("\x02", "")
	note(t, k, "\x00m")
	want("\x01\x00m", "\x00m")
}

func TestCutOfNothing(t *testing.T) {
	r := newReel(t, bare+2*(wide+2))
	k := open(t, r)
	for _, l := range [][]string{nil, {"a"}, {"a", "b"}} {
		if len(l) > 0 {
			add(t, k, l[len(l)-1])
		}
		// Also where there is no room, it is nothing.
		for _, n := range []int{len(l), len(l) + 1, 1 << 20, math.MaxInt32, math.MaxInt} {
			cut(t, k, n)
		}
		for _, n := range []int{-1, -2, math.MinInt32, math.MinInt} {
			wantErr(t, "Cut of a number below 0", k.Cut(n), api.ErrArg)
		}
		wantKeep(t, k, "", l...)
		wantReel(t, r, file{0, row(t, 0, entries(l...)...)})
	}
}

func TestCutWithAGreatNumber(t *testing.T) {
	r := newReel(t, api.MaxRoom)
	records := times(0x10205, "\x00")
	put(t, r, 0, row(t, len(records), records...))
	k := open(t, r)
	cut(t, k, 0x10203)
	cut(t, k, 0x104)
	want := append(slices.Clone(records), "\x03\x00\x01\x02\x03", "\x03\x00\x00\x01\x04")
	wantReel(t, r, file{0, row(t, len(records), want...)})
	if k.Len() != 0x104 || open(t, r).Len() != 0x104 {
		t.Errorf("Len = %d, want %d", k.Len(), 0x104)
	}
}

func TestTheLongest(t *testing.T) {
	long := strings.Repeat("l", api.MaxRecord-1)
	r := newReel(t, api.MaxRoom)
	k := open(t, r)
	add(t, k, long)
	note(t, k, long)
	wantKeep(t, open(t, r), long, long)
	for _, n := range []int{api.MaxRecord, api.MaxRecord + 1, 1 << 22} {
		wantErr(t, "Add of too many bytes", k.Add(make([]byte, n)), api.ErrLong)
		wantErr(t, "Note of too many bytes", k.Note(make([]byte, n)), api.ErrLong)
	}
	wantKeep(t, k, long, long)
	wantReel(t, r, file{0, row(t, 0, "\x00"+long, "\x01"+long)})
	// It is told first, also where there is no room.
	k = open(t, newReel(t, bare))
	wantErr(t, "Add of too many bytes", k.Add(make([]byte, api.MaxRecord)), api.ErrLong)
	wantErr(t, "Note of too many bytes", k.Note(make([]byte, api.MaxRecord)), api.ErrLong)
	wantErr(t, "Add", k.Add([]byte(long)), api.ErrFull)
	wantErr(t, "Note", k.Note([]byte(long)), api.ErrFull)
}

func TestThereIsNoRoom(t *testing.T) {
	calls := []struct {
		name   string
		do     func(k *keep.Keep) api.Errno
		record string
		told   string
	}{
		{"Add", func(k *keep.Keep) api.Errno { return k.Add([]byte("xyz")) }, "\x00xyz", spelled("n", "a", "b", "xyz")},
		{"Add of nothing", func(k *keep.Keep) api.Errno { return k.Add(nil) }, "\x00", spelled("n", "a", "b", "")},
		{"Note", func(k *keep.Keep) api.Errno { return k.Note([]byte("xyz")) }, "\x01xyz", spelled("xyz", "a", "b")},
		{"Clear", (*keep.Keep).Clear, "\x02", spelled("n")},
		{"Cut", func(k *keep.Keep) api.Errno { return k.Cut(1) }, "\x03\x00\x00\x00\x01", spelled("n", "a")},
	}
	there := []string{"\x00a", "\x01n", "\x00b"}
	for _, c := range calls {
		need := len(row(t, 0, append(slices.Clone(there), c.record)...))
		for short, want := range []api.Errno{api.OK, api.ErrFull, api.ErrFull} {
			r := newReel(t, need-short)
			put(t, r, 0, row(t, 0, there...))
			k := open(t, r)
			wantErr(t, c.name, c.do(k), want)
			if want == api.OK {
				if told(t, k) != c.told || told(t, open(t, r)) != c.told {
					t.Errorf("%s: the keep has %s, want %s", c.name, told(t, k), c.told)
				}
				continue
			}
			wantKeep(t, k, "n", "a", "b")
			wantReel(t, r, file{0, row(t, 0, there...)})
		}
	}
}

// Ke1: Noted, Len, Get, All

func TestGetOfWhatIsNotThere(t *testing.T) {
	k := open(t, newReel(t, much))
	note(t, k, "n")
	for n := range 4 {
		for _, i := range []int{math.MinInt, -1, n, n + 1, math.MaxInt} {
			if b, ok := k.Get(i); ok || len(b) != 0 {
				t.Errorf("Get(%d) of %d entries = %q, %v", i, n, b, ok)
			}
		}
		add(t, k, "a")
	}
	cut(t, k, 1)
	if b, ok := k.Get(1); ok || len(b) != 0 {
		t.Errorf("Get(1) of what was cut = %q, %v", b, ok)
	}
	empty(t, k)
	if b, ok := k.Get(0); ok || len(b) != 0 {
		t.Errorf("Get(0) of what was cleared = %q, %v", b, ok)
	}
	if len(k.All()) != 0 {
		t.Errorf("All of what was cleared = %q", k.All())
	}
}

// Ke1: when it grows

func TestItIsBegunAnewBehindSoManyRecords(t *testing.T) {
	r := newReel(t, much)
	k := open(t, r)
	var l []string
	for i := range grow - 1 {
		l = append(l, string(rune('a'+i%26)))
		add(t, k, l[i])
		wantReel(t, r, file{0, row(t, 0, entries(l...)...)})
	}
	note(t, k, "n")
	want := append([]string{"\x01n"}, entries(l...)...)
	wantReel(t, r, file{1, row(t, len(want), want...)})
	wantKeep(t, k, "n", l...)
	wantKeep(t, open(t, r), "n", l...)
	// From there on it is so many more.
	for range grow - 1 {
		l = append(l, "z")
		add(t, k, "z")
		if !slices.Equal(r.Files(), []int{1}) {
			t.Fatalf("behind %d entries the files are %v", len(l), r.Files())
		}
	}
	l = append(l, "z")
	add(t, k, "z")
	want = append([]string{"\x01n"}, entries(l...)...)
	wantReel(t, r, file{2, row(t, len(want), want...)})
	wantKeep(t, open(t, r), "n", l...)
}

func TestEachCallBeginsItAnew(t *testing.T) {
	for _, c := range []struct {
		name string
		do   func(k *keep.Keep) api.Errno
		want []string
	}{
		{"Add", func(k *keep.Keep) api.Errno { return k.Add([]byte("x")) }, []string{"\x01n", "\x00a", "\x00b", "\x00x"}},
		{"Note", func(k *keep.Keep) api.Errno { return k.Note([]byte("m")) }, []string{"\x01m", "\x00a", "\x00b"}},
		{"Note of nothing", func(k *keep.Keep) api.Errno { return k.Note(nil) }, []string{"\x00a", "\x00b"}},
		{"Clear", (*keep.Keep).Clear, []string{"\x01n"}},
		{"Cut", func(k *keep.Keep) api.Errno { return k.Cut(1) }, []string{"\x01n", "\x00a"}},
	} {
		r := taped(t, append(times(grow-3, "\x01n"), "\x00a", "\x00b")...)
		k := open(t, r)
		wantErr(t, c.name, c.do(k), api.OK)
		wantReel(t, r, file{1, row(t, len(c.want), c.want...)})
		if told(t, open(t, r)) != told(t, k) {
			t.Errorf("%s: opened anew it has %s, want %s", c.name, told(t, open(t, r)), told(t, k))
		}
	}
}

func TestNeitherNoteNorEntries(t *testing.T) {
	r := taped(t, times(grow-1, "\x02")...)
	k := open(t, r)
	empty(t, k)
	wantReel(t, r, file{1, row(t, 0)})
	wantKeep(t, k, "")
	wantKeep(t, open(t, r), "")
}

func TestWhatDoesNothingBeginsNothingAnew(t *testing.T) {
	records := append(times(grow+6, "\x01n"), "\x00a")
	r := taped(t, records...)
	as := file{0, row(t, 0, records...)}
	k := open(t, r)
	wantReel(t, r, as)
	cut(t, k, 1)
	wantErr(t, "Cut", k.Cut(-1), api.ErrArg)
	wantErr(t, "Add of too many bytes", k.Add(make([]byte, api.MaxRecord)), api.ErrLong)
	wantKeep(t, k, "n", "a")
	wantReel(t, r, as)
	// What was opened with more than so many is begun anew behind the next one.
	add(t, k, "b")
	wantReel(t, r, file{1, row(t, 3, "\x01n", "\x00a", "\x00b")})
	wantKeep(t, open(t, r), "n", "a", "b")
}

func TestOnlyWhatIsBehindTheBaseCounts(t *testing.T) {
	r := newReel(t, much)
	records := times(3*grow, "\x00a")
	put(t, r, 5, row(t, len(records), records...))
	k := open(t, r)
	for range grow - 1 {
		note(t, k, "n")
		records = append(records, "\x01n")
	}
	wantReel(t, r, file{5, row(t, 3*grow, records...)})
	note(t, k, "m")
	want := append([]string{"\x01m"}, times(3*grow, "\x00a")...)
	wantReel(t, r, file{6, row(t, len(want), want...)})
}

func TestWithoutRoomItGoesOnAsItIs(t *testing.T) {
	records := times(grow, "\x00a")
	full := len(row(t, 0, records...)) + len(row(t, 0, records...))
	for short := range 2 {
		r := newReel(t, full-short)
		k := open(t, r)
		add(t, k, times(grow, "a")...)
		wantKeep(t, k, "", times(grow, "a")...)
		if short == 0 {
			wantReel(t, r, file{1, row(t, grow, records...)})
			continue
		}
		wantReel(t, r, file{0, row(t, 0, records...)})
		// It is tried behind each one, till there is room.
		add(t, k, "b")
		wantReel(t, r, file{0, row(t, 0, append(slices.Clone(records), "\x00b")...)})
		note(t, k, "n")
		cut(t, k, 2)
		wantReel(t, r, file{1, row(t, 3, "\x01n", "\x00a", "\x00a")})
		wantKeep(t, k, "n", "a", "a")
		wantKeep(t, open(t, r), "n", "a", "a")
	}
}

func TestWithoutANumberLeftItGoesOnAsItIs(t *testing.T) {
	r := newReel(t, much)
	records := times(grow-1, "\x01n")
	put(t, r, api.MaxFiles, row(t, 0, records...))
	k := open(t, r)
	add(t, k, "a", "b")
	wantKeep(t, k, "n", "a", "b")
	wantReel(t, r, file{api.MaxFiles, row(t, 0, append(records, "\x00a", "\x00b")...)})
	wantKeep(t, open(t, r), "n", "a", "b")
}

func TestTheLongestAreBegunAnew(t *testing.T) {
	long := strings.Repeat("l", api.MaxRecord-1)
	r := newReel(t, api.MaxRoom)
	put(t, r, 0, row(t, 0, times(grow-2, "\x00")...))
	k := open(t, r)
	note(t, k, long)
	add(t, k, long)
	if x, e := tape.Open(r); e != api.OK || x.Grown() != 0 || x.Len() != grow {
		t.Fatalf("Open of the tape: error %d, %d records, grown by %d", e, x.Len(), x.Grown())
	}
	wantKeep(t, open(t, r), long, append(times(grow-2, ""), long)...)
}

// R1

func TestAKeepThatWasNotGiven(t *testing.T) {
	for _, k := range []*keep.Keep{nil, {}} {
		for _, b := range [][]byte{nil, []byte("a"), make([]byte, api.MaxRecord)} {
			wantErr(t, "Add", k.Add(b), api.ErrArg)
			wantErr(t, "Note", k.Note(b), api.ErrArg)
		}
		for _, i := range []int{math.MinInt, -1, 0, 1, math.MaxInt} {
			wantErr(t, "Cut", k.Cut(i), api.ErrArg)
			if b, ok := k.Get(i); ok || len(b) != 0 {
				t.Errorf("Get(%d) = %q, %v", i, b, ok)
			}
		}
		wantErr(t, "Clear", k.Clear(), api.ErrArg)
		if k.Len() != 0 || len(k.All()) != 0 || len(k.Noted()) != 0 {
			t.Errorf("Len %d, All %q, Noted %q", k.Len(), k.All(), k.Noted())
		}
	}
}

// R3

// spoil turns all of a list's room, that behind its end too.
func spoil(b []byte) {
	b = b[:cap(b)]
	for i := range b {
		b[i] = '#'
	}
}

func TestWhatIsHandedInIsNeitherChangedNorKept(t *testing.T) {
	r := newReel(t, much)
	k := open(t, r)
	for _, do := range []func([]byte) api.Errno{k.Add, k.Note, k.Add} {
		room := []byte("abcdefgh")
		if e := do(room[2:5]); e != api.OK || string(room) != "abcdefgh" {
			t.Fatalf("error %d, and what was handed in is %q", e, room)
		}
		spoil(room)
	}
	wantKeep(t, k, "cde", "cde", "cde")
	wantKeep(t, open(t, r), "cde", "cde", "cde")
	add(t, k, times(grow, "f")...)
	wantKeep(t, open(t, r), "cde", append([]string{"cde", "cde"}, times(grow, "f")...)...)
}

// answers is all lists of bytes that a keep tells.
func answers(k *keep.Keep) [][]byte {
	l := append(k.All(), k.All()...)
	for i := range k.Len() {
		b, _ := k.Get(i)
		l = append(l, b)
	}
	return append(l, k.Noted(), k.Noted())
}

func TestAnswersShareNothing(t *testing.T) {
	r := newReel(t, much)
	k := open(t, r)
	add(t, k, "abc", "", "def")
	note(t, k, "n")
	for _, x := range []*keep.Keep{k, open(t, r)} {
		l := answers(x)
		for i, b := range l {
			was := make([][]byte, len(l))
			for j := range l {
				was[j] = bytes.Clone(l[j])
			}
			spoil(b)
			for j := range l {
				if j != i && !bytes.Equal(l[j], was[j]) {
					t.Fatalf("the answers %d and %d share memory", i, j)
				}
			}
			wantKeep(t, x, "n", "abc", "", "def")
		}
		all := x.All()
		clear(all[:cap(all)])
		wantKeep(t, x, "n", "abc", "", "def")
	}
	// What was told stays as it was told.
	all, b := k.All(), k.Noted()
	cut(t, k, 1)
	add(t, k, "x", "y", "z")
	note(t, k, "m")
	if len(all) != 3 || string(all[1]) != "" || string(all[2]) != "def" || string(b) != "n" {
		t.Errorf("an answer has turned: %q, %q", all, b)
	}
}
