package reel_test

import (
	"bytes"
	"math"
	"slices"
	"strconv"
	"strings"
	"testing"

	"tailrace/api"
	"tailrace/reel"
)

func mustNew(t *testing.T, room int) *reel.Reel {
	t.Helper()
	r, e := reel.New(room)
	if e != api.OK || r == nil {
		t.Fatalf("New(%d): %v, error %d", room, r, e)
	}
	return r
}

func mustAppend(t *testing.T, r *reel.Reel, file int, s string) {
	t.Helper()
	if e := r.Append(file, []byte(s)); e != api.OK {
		t.Fatalf("Append(%d, %q): error %d", file, s, e)
	}
}

func mustDrop(t *testing.T, r *reel.Reel, file int) {
	t.Helper()
	if e := r.Drop(file); e != api.OK {
		t.Fatalf("Drop(%d): error %d", file, e)
	}
}

// told is all that is seen of a reel, as text: `1:abc 2:`.
func told(t *testing.T, r *reel.Reel) string {
	t.Helper()
	var l []string
	for _, f := range r.Files() {
		b, ok := r.Read(f)
		if !ok {
			t.Fatalf("file %d is told, but is not there", f)
		}
		l = append(l, strconv.Itoa(f)+":"+string(b))
	}
	return strings.Join(l, " ")
}

func wantFiles(t *testing.T, r *reel.Reel, want string) {
	t.Helper()
	if s := told(t, r); s != want {
		t.Fatalf("the files are %q, want %q", s, want)
	}
}

func wantState(t *testing.T, r *reel.Reel, left, pending int, gone bool) {
	t.Helper()
	if r.Left() != left || r.Pending() != pending || r.Gone() != gone {
		t.Fatalf("Left %d, Pending %d, Gone %v; want %d, %d, %v", r.Left(), r.Pending(), r.Gone(), left, pending, gone)
	}
}

// Re1

func TestNewOfEachRoom(t *testing.T) {
	for _, room := range []int{math.MinInt, -1, api.MaxRoom + 1, math.MaxInt} {
		if r, e := reel.New(room); r != nil || e != api.ErrArg {
			t.Errorf("New(%d): %v, error %d", room, r, e)
		}
	}
	for _, room := range []int{0, 1, api.MaxRoom - 1, api.MaxRoom} {
		r := mustNew(t, room)
		wantFiles(t, r, "")
		wantState(t, r, room, 0, false)
	}
}

func TestAppendPutsBehind(t *testing.T) {
	r := mustNew(t, 10)
	mustAppend(t, r, 7, "abc")
	mustAppend(t, r, 2, "x")
	mustAppend(t, r, 7, "de")
	mustAppend(t, r, 7, "")
	wantFiles(t, r, "2:x 7:abcde")
	wantState(t, r, 4, 6, false)
}

func TestAppendToWhatIsNoNumber(t *testing.T) {
	r := mustNew(t, 3)
	for _, f := range []int{math.MinInt, -1, api.MaxFiles + 1, math.MaxInt} {
		// It is told ahead of ErrFull.
		for _, b := range [][]byte{nil, []byte("a"), []byte("abcd")} {
			if e := r.Append(f, b); e != api.ErrArg {
				t.Errorf("Append(%d, %q): error %d", f, b, e)
			}
		}
	}
	wantFiles(t, r, "")
	wantState(t, r, 3, 0, false)
	mustAppend(t, r, 0, "a")
	mustAppend(t, r, api.MaxFiles, "b")
	mustAppend(t, r, api.MaxFiles-1, "c")
	wantFiles(t, r, "0:a 1048575:c 1048576:b")
}

func TestAppendBeyondTheRoom(t *testing.T) {
	r := mustNew(t, 5)
	mustAppend(t, r, 1, "abc")
	for _, f := range []int{1, 2} {
		if e := r.Append(f, []byte("def")); e != api.ErrFull {
			t.Errorf("Append(%d): error %d", f, e)
		}
	}
	// A file that was refused is not there, and what was refused has no unit.
	wantFiles(t, r, "1:abc")
	wantState(t, r, 2, 3, false)
	mustAppend(t, r, 2, "de")
	wantState(t, r, 0, 5, false)
	if e := r.Append(2, []byte("f")); e != api.ErrFull {
		t.Errorf("Append to a full reel: error %d", e)
	}
	// There is room for no bytes always.
	mustAppend(t, r, 3, "")
	wantFiles(t, r, "1:abc 2:de 3:")
	// What is dropped makes room at once.
	mustDrop(t, r, 1)
	wantState(t, r, 3, 6, false)
	mustAppend(t, r, 2, "fgh")
	wantFiles(t, r, "2:defgh 3:")
}

func TestAppendToAReelWithoutRoom(t *testing.T) {
	r := mustNew(t, 0)
	if e := r.Append(1, []byte("a")); e != api.ErrFull {
		t.Errorf("Append: error %d", e)
	}
	mustAppend(t, r, 1, "")
	wantFiles(t, r, "1:")
	wantState(t, r, 0, 0, false)
}

func TestTheGreatestRoomIsFilled(t *testing.T) {
	r := mustNew(t, api.MaxRoom)
	all := bytes.Repeat([]byte("abcd"), api.MaxRoom/4)
	if e := r.Append(1, append(all, 'e')); e != api.ErrFull {
		t.Fatalf("Append of a byte too many: error %d", e)
	}
	if e := r.Append(1, all); e != api.OK {
		t.Fatalf("Append: error %d", e)
	}
	wantState(t, r, 0, api.MaxRoom, false)
	if b, ok := r.Read(1); !ok || !bytes.Equal(b, all) {
		t.Errorf("Read: %d bytes, %v", len(b), ok)
	}
	r.Crash(api.MaxRoom - 1)
	wantState(t, r, 1, 0, false)
}

func TestDrop(t *testing.T) {
	r := mustNew(t, 10)
	mustAppend(t, r, 1, "abc")
	for _, f := range []int{math.MinInt, -1, 0, 2, api.MaxFiles, api.MaxFiles + 1, math.MaxInt} {
		if e := r.Drop(f); e != api.ErrNone {
			t.Errorf("Drop(%d): error %d", f, e)
		}
	}
	wantState(t, r, 7, 3, false)
	mustDrop(t, r, 1)
	wantFiles(t, r, "")
	wantState(t, r, 10, 4, false)
	if e := r.Drop(1); e != api.ErrNone {
		t.Errorf("Drop once more: error %d", e)
	}
	// A file that comes again has nothing of what it had.
	mustAppend(t, r, 1, "z")
	wantFiles(t, r, "1:z")
	mustAppend(t, r, 2, "")
	mustDrop(t, r, 2)
	wantFiles(t, r, "1:z")
}

func TestReadOfWhatIsNotThere(t *testing.T) {
	r := mustNew(t, 10)
	mustAppend(t, r, 1, "abc")
	mustAppend(t, r, 3, "")
	for _, f := range []int{math.MinInt, -1, 0, 2, api.MaxFiles, math.MaxInt} {
		if b, ok := r.Read(f); ok || len(b) != 0 {
			t.Errorf("Read(%d) = %q, %v", f, b, ok)
		}
	}
	if b, ok := r.Read(3); !ok || len(b) != 0 {
		t.Errorf("Read of a file of no bytes = %q, %v", b, ok)
	}
}

func TestFilesAreRising(t *testing.T) {
	r := mustNew(t, 0)
	var want []int
	for i := range 500 {
		f := i * 7919 % 1009
		mustAppend(t, r, f, "")
		want = append(want, f)
	}
	slices.Sort(want)
	for range 3 {
		if l := r.Files(); !slices.Equal(l, want) {
			t.Fatalf("Files = %v", l)
		}
	}
}

// Re2

func TestTheExample(t *testing.T) {
	r := mustNew(t, 10)
	mustAppend(t, r, 3, "abc")
	r.Sync()
	mustAppend(t, r, 3, "def")
	r.Crash(2)
	wantFiles(t, r, "3:abcde")
	wantState(t, r, 5, 0, false)
}

// crashed is what is there behind a script and a crash that keeps so many.
func crashed(t *testing.T, keep int, script func(r *reel.Reel)) string {
	t.Helper()
	r := mustNew(t, 20)
	script(r)
	r.Crash(keep)
	s := told(t, r)
	wantState(t, r, 20-len(bytesOf(r)), 0, false)
	// What stayed is kept from then on.
	r.Crash(0)
	wantFiles(t, r, s)
	return s
}

func bytesOf(r *reel.Reel) []byte {
	var all []byte
	for _, f := range r.Files() {
		b, _ := r.Read(f)
		all = append(all, b...)
	}
	return all
}

func wantCrashed(t *testing.T, script func(r *reel.Reel), want map[int]string) {
	t.Helper()
	for keep, s := range want {
		if is := crashed(t, keep, script); is != s {
			t.Errorf("Crash(%d): %q, want %q", keep, is, s)
		}
	}
}

func TestCrashKeepsTheFirstUnits(t *testing.T) {
	wantCrashed(t, func(r *reel.Reel) {
		mustAppend(t, r, 1, "ab")
		r.Sync()
		mustAppend(t, r, 1, "cd")
		mustAppend(t, r, 2, "xy")
		mustDrop(t, r, 1)
		mustAppend(t, r, 1, "pq")
		mustDrop(t, r, 2)
	}, map[int]string{
		math.MinInt: "1:ab", -1: "1:ab", 0: "1:ab",
		1: "1:abc",
		2: "1:abcd",
		3: "1:abcd 2:x",
		4: "1:abcd 2:xy",
		5: "2:xy",
		6: "1:p 2:xy",
		7: "1:pq 2:xy",
		8: "1:pq", 9: "1:pq", math.MaxInt: "1:pq",
	})
}

func TestCrashUndoesADrop(t *testing.T) {
	wantCrashed(t, func(r *reel.Reel) {
		mustAppend(t, r, 1, "ab")
		mustAppend(t, r, 2, "")
		r.Sync()
		mustDrop(t, r, 2)
		mustDrop(t, r, 1)
	}, map[int]string{0: "1:ab 2:", 1: "1:ab", 2: ""})
}

// What has no unit hangs on what is ahead of it alone.
func TestAppendingsOfNoBytes(t *testing.T) {
	wantCrashed(t, func(r *reel.Reel) {
		mustAppend(t, r, 1, "")
		mustAppend(t, r, 2, "ab")
		mustAppend(t, r, 3, "")
		mustAppend(t, r, 4, "c")
		mustAppend(t, r, 5, "")
		mustDrop(t, r, 3)
		mustAppend(t, r, 3, "")
	}, map[int]string{
		-1: "1:", 0: "1:",
		1: "1: 2:a",
		2: "1: 2:ab 3:",
		3: "1: 2:ab 3: 4:c 5:",
		4: "1: 2:ab 3: 4:c 5:",
	})
	// Of a file that is dropped it makes a difference to when it comes again.
	wantCrashed(t, func(r *reel.Reel) {
		mustAppend(t, r, 1, "a")
		mustDrop(t, r, 1)
		mustAppend(t, r, 1, "")
		mustAppend(t, r, 1, "bc")
	}, map[int]string{0: "", 1: "1:a", 2: "1:", 3: "1:b", 4: "1:bc"})
}

func TestPending(t *testing.T) {
	r := mustNew(t, 20)
	mustAppend(t, r, 1, "abc")
	wantState(t, r, 17, 3, false)
	mustAppend(t, r, 1, "")
	wantState(t, r, 17, 3, false)
	mustDrop(t, r, 1)
	wantState(t, r, 20, 4, false)
	r.Sync()
	wantState(t, r, 20, 0, false)
	r.Sync()
	wantState(t, r, 20, 0, false)
	mustAppend(t, r, 1, "x")
	wantState(t, r, 19, 1, false)
	r.Crash(1)
	wantState(t, r, 19, 0, false)
}

func TestArmedUnitsCountAndThePowerGoes(t *testing.T) {
	for n, want := range map[int]string{0: "9:k", 1: "1:a 9:k", 2: "1:ab 9:k", 3: "1:ab", 4: "1:abc"} {
		r := mustNew(t, 20)
		mustAppend(t, r, 9, "k")
		r.Sync()
		r.Arm(n)
		wantState(t, r, 19, 0, false)
		mustAppend(t, r, 1, "ab")
		mustDrop(t, r, 9)
		mustAppend(t, r, 1, "c")
		// All is seen, whether it counts or not.
		wantFiles(t, r, "1:abc")
		wantState(t, r, 17, n, n < 4)
		mustDrop(t, r, 1)
		mustAppend(t, r, 2, "z")
		wantFiles(t, r, "2:z")
		wantState(t, r, 19, n, true)
		r.Crash(100)
		wantFiles(t, r, want)
		wantState(t, r, 20-len(bytesOf(r)), 0, false)
	}
}

// The power goes at the unit behind the last that counts, not ahead of it.
func TestThePowerGoesAtAUnitAlone(t *testing.T) {
	r := mustNew(t, 5)
	r.Arm(0)
	wantState(t, r, 5, 0, false)
	r.Sync()
	mustAppend(t, r, 1, "")
	if r.Drop(2) != api.ErrNone || r.Append(2, []byte("abcdef")) != api.ErrFull || r.Append(-1, []byte("a")) != api.ErrArg {
		t.Fatal("what may not be was done")
	}
	wantState(t, r, 5, 0, false)
	mustDrop(t, r, 1)
	wantState(t, r, 5, 0, true)
	r.Crash(1)
	wantFiles(t, r, "1:")
}

func TestUnitsJustAsManyAsArmed(t *testing.T) {
	r := mustNew(t, 9)
	r.Arm(3)
	mustAppend(t, r, 1, "abc")
	wantState(t, r, 6, 3, false)
	r.Sync()
	wantState(t, r, 6, 0, false)
	mustAppend(t, r, 1, "d")
	wantState(t, r, 5, 0, true)
	r.Crash(5)
	wantFiles(t, r, "1:abc")
}

func TestSyncsOfNoAccount(t *testing.T) {
	script := func(r *reel.Reel) {
		mustAppend(t, r, 1, "ab")
		r.Arm(1)
		mustAppend(t, r, 1, "cd")
		r.Sync()
		wantState(t, r, 16, 3, true)
		mustAppend(t, r, 2, "")
		mustAppend(t, r, 3, "x")
		r.Sync()
		wantFiles(t, r, "1:abcd 2: 3:x")
		wantState(t, r, 15, 3, true)
	}
	wantCrashed(t, script, map[int]string{-1: "", 0: "", 1: "1:a", 2: "1:ab", 3: "1:abc", 4: "1:abc", 99: "1:abc"})
}

// An appending of no bytes is kept while the power is there, and is not behind it.
func TestNoBytesAndThePower(t *testing.T) {
	wantCrashed(t, func(r *reel.Reel) {
		r.Arm(1)
		mustAppend(t, r, 1, "a")
		mustAppend(t, r, 2, "")
		mustAppend(t, r, 3, "b")
		mustAppend(t, r, 4, "")
		mustAppend(t, r, 2, "")
	}, map[int]string{0: "", 1: "1:a 2:", 2: "1:a 2:", 9: "1:a 2:"})
}

func TestArmAnew(t *testing.T) {
	r := mustNew(t, 99)
	r.Arm(2)
	mustAppend(t, r, 1, "a")
	r.Arm(3)
	mustAppend(t, r, 1, "bcd")
	wantState(t, r, 95, 4, false)
	for _, n := range []int{-1, math.MinInt} {
		r.Arm(0)
		r.Arm(n)
		mustAppend(t, r, 1, "efghij")
		if r.Gone() {
			t.Fatalf("Arm(%d): the power is gone", n)
		}
	}
	r.Arm(math.MaxInt)
	mustAppend(t, r, 1, "k")
	wantState(t, r, 82, 17, false)
	r.Arm(0)
	mustDrop(t, r, 1)
	wantState(t, r, 99, 17, true)
	// Once the power is gone it stays away.
	for _, n := range []int{-1, 0, 1, 50} {
		r.Arm(n)
		mustAppend(t, r, 2, "x")
		r.Sync()
		wantState(t, r, r.Left(), 17, true)
	}
	r.Crash(17)
	wantFiles(t, r, "1:abcdefghijefghijk")
}

func TestACrashTakesTheArmingAway(t *testing.T) {
	r := mustNew(t, 20)
	r.Arm(1)
	r.Crash(0)
	mustAppend(t, r, 1, "abc")
	wantState(t, r, 17, 3, false)
	r.Arm(0)
	mustAppend(t, r, 1, "d")
	wantState(t, r, 16, 3, true)
	r.Crash(3)
	wantState(t, r, 17, 0, false)
	mustAppend(t, r, 1, "ef")
	r.Sync()
	wantState(t, r, 15, 0, false)
	r.Crash(0)
	wantFiles(t, r, "1:abcef")
	// It is armed anew as if it never was.
	r.Arm(1)
	mustAppend(t, r, 1, "gh")
	wantState(t, r, 13, 1, true)
}

// Re3, and all of it against the words

// unit is one byte appended, one drop, or (none) an appending of no bytes.
type unit struct {
	kind string
	file int
	b    byte
	of   bool // of account
}

// model is a reel as the words say it, unit by unit.
type model struct {
	room  int
	kept  map[int]string
	units []unit
	armed int
	gone  bool
}

func (m *model) do(kind string, file int, b byte) {
	if kind != "none" && !m.gone && m.armed == 0 {
		m.gone = true
	}
	if kind != "none" && m.armed > 0 {
		m.armed--
	}
	m.units = append(m.units, unit{kind, file, b, !m.gone})
}

// made is the files behind those units.
func made(from map[int]string, l []unit) map[int]string {
	files := map[int]string{}
	for f, s := range from {
		files[f] = s
	}
	for _, u := range l {
		switch u.kind {
		case "drop":
			delete(files, u.file)
		case "none":
			files[u.file] += ""
		case "byte":
			files[u.file] += string([]byte{u.b})
		}
	}
	return files
}

func (m *model) seen() map[int]string { return made(m.kept, m.units) }

func (m *model) left() int {
	n := m.room
	for _, s := range m.seen() {
		n -= len(s)
	}
	return n
}

func (m *model) append(file int, b []byte) api.Errno {
	if file < 0 || file > api.MaxFiles {
		return api.ErrArg
	}
	if len(b) > m.left() {
		return api.ErrFull
	}
	if len(b) == 0 {
		m.do("none", file, 0)
	}
	for _, c := range b {
		m.do("byte", file, c)
	}
	return api.OK
}

func (m *model) drop(file int) api.Errno {
	if _, ok := m.seen()[file]; !ok {
		return api.ErrNone
	}
	m.do("drop", file, 0)
	return api.OK
}

func (m *model) sync() {
	if !m.gone {
		m.kept, m.units = m.seen(), nil
	}
}

func (m *model) arm(n int) {
	if !m.gone {
		m.armed = max(n, -1)
	}
}

func (m *model) pending() int {
	n := 0
	for _, u := range m.units {
		if u.kind != "none" && u.of {
			n++
		}
	}
	return n
}

func (m *model) crash(keep int) {
	var stay []unit
	for _, u := range m.units {
		if !u.of || u.kind != "none" && keep <= 0 {
			break
		}
		if u.kind != "none" {
			keep--
		}
		stay = append(stay, u)
	}
	m.kept, m.units, m.armed, m.gone = made(m.kept, stay), nil, -1, false
}

func (m *model) told() string {
	files := m.seen()
	var l []int
	for f := range files {
		l = append(l, f)
	}
	slices.Sort(l)
	var out []string
	for _, f := range l {
		out = append(out, strconv.Itoa(f)+":"+files[f])
	}
	return strings.Join(out, " ")
}

// both is a reel and its model, which must tell the same.
type both struct {
	t *testing.T
	r *reel.Reel
	m *model
	s []string // the script so far
}

func newBoth(t *testing.T, room int) *both {
	t.Helper()
	return &both{t: t, r: mustNew(t, room), m: &model{room: room, kept: map[int]string{}, armed: -1}}
}

func (w *both) step(name string, n int, b string) {
	w.t.Helper()
	w.s = append(w.s, name+" "+strconv.Itoa(n)+" "+b)
	var e, f api.Errno
	switch name {
	case "append":
		e, f = w.r.Append(n, []byte(b)), w.m.append(n, []byte(b))
	case "drop":
		e, f = w.r.Drop(n), w.m.drop(n)
	case "sync":
		w.r.Sync()
		w.m.sync()
	case "arm":
		w.r.Arm(n)
		w.m.arm(n)
	case "crash":
		w.r.Crash(n)
		w.m.crash(n)
	}
	is, want := told(w.t, w.r), w.m.told()
	if e != f || is != want {
		w.t.Fatalf("%s: error %d, %q; want %d, %q", strings.Join(w.s, "; "), e, is, f, want)
	}
	if w.r.Left() != w.m.left() || w.r.Pending() != w.m.pending() || w.r.Gone() != w.m.gone {
		w.t.Fatalf("%s: Left %d, Pending %d, Gone %v; want %d, %d, %v", strings.Join(w.s, "; "),
			w.r.Left(), w.r.Pending(), w.r.Gone(), w.m.left(), w.m.pending(), w.m.gone)
	}
}

// dice is numbers without a rule that is easy to see.
type dice uint32

func (d *dice) below(n int) int {
	*d = *d*1664525 + 1013904223
	return int(*d>>8) % n
}

func TestScriptsAreAsTheWordsSay(t *testing.T) {
	for seed := range 3000 {
		d := dice(seed)
		w := newBoth(t, d.below(24))
		for i := range 40 {
			switch k := d.below(20); {
			case k < 9:
				w.step("append", d.below(5)-d.below(8)/7, strings.Repeat(string(rune('a'+i%26)), d.below(5)))
			case k < 13:
				w.step("drop", d.below(5), "")
			case k < 15:
				w.step("sync", 0, "")
			case k < 17:
				w.step("arm", d.below(9)-2, "")
			case k < 18:
				w.step("crash", d.below(14)-2, "")
			default:
				w.step("append", d.below(5), "")
			}
		}
		w.step("crash", d.below(20), "")
	}
}

// Every short script, and every crash and arming of it.
func TestAllShortScripts(t *testing.T) {
	acts := []struct {
		name string
		n    int
		b    string
	}{{"append", 1, "ab"}, {"append", 2, "c"}, {"append", 1, ""}, {"drop", 1, ""}, {"drop", 2, ""}, {"sync", 0, ""}, {"arm", 1, ""}}
	total := 1
	for range 4 {
		total *= len(acts)
	}
	for script := range total {
		for armed := -1; armed < 4; armed++ {
			for keep := range 6 {
				w := newBoth(t, 6)
				w.step("append", 2, "k")
				w.step("sync", 0, "")
				w.step("arm", armed, "")
				for n, i := script, 0; i < 4; n, i = n/len(acts), i+1 {
					a := acts[n%len(acts)]
					w.step(a.name, a.n, a.b)
				}
				w.step("crash", keep, "")
			}
		}
	}
}

func TestWhatWasSyncedIsThereBehindAnyCrash(t *testing.T) {
	for armed := -1; armed < 9; armed++ {
		for keep := -1; keep < 9; keep++ {
			r := mustNew(t, 30)
			mustAppend(t, r, 1, "synced")
			mustAppend(t, r, 2, "")
			r.Sync()
			r.Arm(armed)
			mustAppend(t, r, 1, "more")
			mustAppend(t, r, 3, "new")
			r.Sync()
			lasts := !r.Gone()
			r.Crash(keep)
			one, ok := r.Read(1)
			if !ok || !bytes.HasPrefix(one, []byte("synced")) || !bytes.HasPrefix([]byte("syncedmore"), one) {
				t.Fatalf("armed with %d, Crash(%d): %q, %v", armed, keep, one, ok)
			}
			if b, ok := r.Read(2); !ok || len(b) != 0 {
				t.Fatalf("armed with %d, Crash(%d): the file of no bytes is %q, %v", armed, keep, b, ok)
			}
			three, ok := r.Read(3)
			if !bytes.HasPrefix([]byte("new"), three) || ok && len(three) == 0 {
				t.Fatalf("armed with %d, Crash(%d): %q, %v", armed, keep, three, ok)
			}
			if lasts && (string(one) != "syncedmore" || string(three) != "new") {
				t.Fatalf("armed with %d, Crash(%d): what was synced is lost: %q, %q", armed, keep, one, three)
			}
		}
	}
}

// What is appended behind a crash stands where the undone bytes stood.
func TestUndoneBytesDoNotComeAgain(t *testing.T) {
	r := mustNew(t, 30)
	mustAppend(t, r, 1, "ab")
	r.Sync()
	mustAppend(t, r, 1, "cdef")
	mustDrop(t, r, 1)
	mustAppend(t, r, 1, "0123456789")
	r.Crash(1)
	wantFiles(t, r, "1:abc")
	mustAppend(t, r, 1, "x")
	mustDrop(t, r, 1)
	mustAppend(t, r, 1, "yyyyyyy")
	r.Crash(2)
	wantFiles(t, r, "")
	mustAppend(t, r, 1, "z")
	r.Sync()
	r.Crash(5)
	wantFiles(t, r, "1:z")
	wantState(t, r, 29, 0, false)
}

// Many small appendings, each synced, and many files, are no burden.
func TestMany(t *testing.T) {
	r := mustNew(t, api.MaxRoom)
	for i := range 100000 {
		mustAppend(t, r, 1, string([]byte{byte(i), byte(i >> 8), byte(i >> 16)}))
		r.Sync()
		if i%2 == 0 {
			mustAppend(t, r, 2, "undone")
			r.Crash(0)
		}
	}
	b, ok := r.Read(1)
	if !ok || len(b) != 300000 || b[299999] != 1 || b[299998] != 0x86 || b[299997] != 0x9f {
		t.Fatalf("Read: %d bytes, %v", len(b), ok)
	}
	for f := range 100000 {
		mustAppend(t, r, f+5, "x")
	}
	r.Crash(50000)
	if l := r.Files(); len(l) != 50001 || l[50000] != 50004 {
		t.Fatalf("%d files", len(l))
	}
}

// R1

func TestReelsThatNewDidNotGive(t *testing.T) {
	var none *reel.Reel
	edges := []int{math.MinInt, -1, 0, 1, api.MaxFiles, math.MaxInt}
	for _, r := range []*reel.Reel{none, {}, new(reel.Reel)} {
		for _, n := range edges {
			for _, b := range [][]byte{nil, {}, []byte("a"), make([]byte, api.MaxRoom+1)} {
				if e := r.Append(n, b); e != api.ErrArg {
					t.Errorf("Append(%d, %d bytes): error %d", n, len(b), e)
				}
			}
			if e := r.Drop(n); e != api.ErrArg {
				t.Errorf("Drop(%d): error %d", n, e)
			}
			if b, ok := r.Read(n); ok || len(b) != 0 {
				t.Errorf("Read(%d) = %q, %v", n, b, ok)
			}
			r.Arm(n)
			r.Sync()
			wantState(t, r, 0, 0, false)
			r.Crash(n)
			wantState(t, r, 0, 0, false)
			if l := r.Files(); len(l) != 0 {
				t.Errorf("Files = %v", l)
			}
		}
	}
}

func TestAllArgumentsEnd(t *testing.T) {
	edges := []int{math.MinInt, math.MinInt + 1, -1, 0, 1, api.MaxFiles, api.MaxFiles + 1, math.MaxInt - 1, math.MaxInt}
	for _, n := range edges {
		for _, m := range edges {
			w := newBoth(t, 9)
			w.step("arm", m, "")
			w.step("append", n, "ab")
			w.step("append", 1, "cd")
			w.step("arm", n, "")
			w.step("drop", n, "")
			w.step("append", m, "")
			w.step("crash", m, "")
			w.step("append", n, "abcdefgh")
			w.step("crash", n, "")
		}
	}
}

// R3

func TestNothingHandedInIsTouchedOrKept(t *testing.T) {
	r := mustNew(t, 100)
	room := []byte("abcdefBEHIND")
	in := room[:6]
	if r.Append(1, in) != api.OK || r.Append(2, in[:3]) != api.OK || r.Append(1, in[2:4]) != api.OK {
		t.Fatal("Append refused")
	}
	if string(room) != "abcdefBEHIND" {
		t.Fatalf("what was handed in is %q now", room)
	}
	scribble(in)
	wantFiles(t, r, "1:abcdefcd 2:abc")
	r.Crash(7)
	wantFiles(t, r, "1:abcdef 2:a")
}

func TestAnswersAreNewMemory(t *testing.T) {
	r := mustNew(t, 100)
	mustAppend(t, r, 1, "abc")
	mustAppend(t, r, 1, "defghijkl")
	mustAppend(t, r, 2, "")
	first, _ := r.Read(1)
	again, _ := r.Read(1)
	empty, _ := r.Read(2)
	scribble(first)
	scribble(empty)
	if string(again) != "abcdefghijkl" {
		t.Fatalf("two answers share memory: %q", again)
	}
	mustAppend(t, r, 1, "mn")
	mustAppend(t, r, 2, "o")
	wantFiles(t, r, "1:abcdefghijklmn 2:o")
	scribble(again)
	scribble(empty)
	r.Crash(13)
	wantFiles(t, r, "1:abcdefghijklm 2:")

	l := r.Files()
	l[0] = 77
	wantFiles(t, r, "1:abcdefghijklm 2:")
}

// What was read stays as it was, whatever is done to the reel.
func TestAnAnswerStaysAsItWas(t *testing.T) {
	r := mustNew(t, 100)
	mustAppend(t, r, 1, "abcdef")
	b, _ := r.Read(1)
	r.Crash(3)
	mustAppend(t, r, 1, "XYZ")
	mustDrop(t, r, 1)
	mustAppend(t, r, 1, "0123456789")
	if string(b) != "abcdef" {
		t.Fatalf("what was read is %q now", b)
	}
}

func TestNilAndTheEmptyListAreTheSame(t *testing.T) {
	for _, b := range [][]byte{nil, {}, []byte("abc")[:0]} {
		r := mustNew(t, 3)
		if e := r.Append(1, b); e != api.OK {
			t.Fatalf("Append: error %d", e)
		}
		wantFiles(t, r, "1:")
		wantState(t, r, 3, 0, false)
	}
}

// scribble writes over all of b, its spare room too.
func scribble(b []byte) {
	b = b[:cap(b)]
	for i := range b {
		b[i] = '#'
	}
}
