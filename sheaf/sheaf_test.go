package sheaf_test

import (
	"math"
	"slices"
	"strconv"
	"strings"
	"testing"

	"tailrace/api"
	"tailrace/sheaf"
)

// texts are keys by rising bytes, whose order by runes, letters or lengths is another one.
func texts() []string {
	return []string{
		"", "\x00", "\x00\x00", "\x01", "10", "9", "B", "a", "a\x00", "aa", "ab", "b",
		strings.Repeat("k", 70000), "z", "\x7f", "\x80", "\xc3", "é", "\xee\x80\x80", "\xf0\x90\x80\x80", "\xff", "\xff\xff",
	}
}

// pairs are keys as they come, each with a value that tells its place and a mark.
func pairs(mark string, keys ...string) []api.Pair {
	var l []api.Pair
	for i, k := range keys {
		l = append(l, api.Pair{Key: k, Val: mark + strconv.Itoa(i)})
	}
	return l
}

// some are those pairs whose bits are set.
func some(l []api.Pair, bits int) []api.Pair {
	var out []api.Pair
	for i, p := range l {
		if bits>>i&1 == 1 {
			out = append(out, p)
		}
	}
	return out
}

// few are short sheaves of the same five keys: all there are.
func few(mark string) [][]api.Pair {
	all := pairs(mark, "", "a", "a\x00", "b", "\xff")
	var out [][]api.Pair
	for bits := range 1 << len(all) {
		out = append(out, some(all, bits))
	}
	return out
}

// asked are keys that few may have, and others ahead, between and behind.
func asked() []string {
	return []string{"", "\x00", "A", "a", "a\x00", "a\x00\x00", "aa", "b", "c", "\xff", "\xff\x00"}
}

// noSheaves are lists that are out of order, or have a key twice, wherever that is.
func noSheaves() [][]api.Pair {
	twice := []api.Pair{{Key: "a", Val: "x"}, {Key: "a", Val: "x"}}
	return [][]api.Pair{
		pairs("v", "b", "a"), pairs("v", "a", "a"), pairs("v", "", ""), twice,
		pairs("v", "b", "a", "c"), pairs("v", "a", "c", "b"), pairs("v", "a", "b", "c", "d", "c"),
		pairs("v", "a", "a", "b"), pairs("v", "a", "b", "b"), pairs("v", "a", "b", "a"),
		pairs("v", "a", ""), pairs("v", "aa", "a"), pairs("v", "a\x00", "a"), pairs("v", "9", "10"),
		pairs("v", "a", "B"), pairs("v", "\xff", "\x7f"), pairs("v", "\xf0\x90\x80\x80", "\xee\x80\x80"),
		pairs("v", "c", "b", "a"),
	}
}

func value(l []api.Pair, key string) (string, bool) {
	for _, p := range l {
		if p.Key == key {
			return p.Val, true
		}
	}
	return "", false
}

// without is a list's pairs of other keys.
func without(l []api.Pair, key string) []api.Pair {
	var out []api.Pair
	for _, p := range l {
		if p.Key != key {
			out = append(out, p)
		}
	}
	return out
}

func ordered(l []api.Pair) []api.Pair {
	slices.SortFunc(l, func(a, b api.Pair) int { return strings.Compare(a.Key, b.Key) })
	return l
}

// scanned is a scan, pair by pair.
func scanned(l []api.Pair, from, to string, most int) []api.Pair {
	var out []api.Pair
	for _, p := range l {
		if p.Key >= from && (to == "" || p.Key < to) && len(out) < most {
			out = append(out, p)
		}
	}
	return out
}

func merged(a, b []api.Pair) []api.Pair {
	out := slices.Clone(b)
	for _, p := range a {
		if _, ok := value(b, p.Key); !ok {
			out = append(out, p)
		}
	}
	return ordered(out)
}

func want(t *testing.T, what string, l []api.Pair, e api.Errno, right []api.Pair) {
	t.Helper()
	if e != api.OK || !slices.Equal(l, right) {
		t.Fatalf("%s = %q, error %d; want %q", what, l, e, right)
	}
}

func wantRefused(t *testing.T, what string, l []api.Pair, e api.Errno) {
	t.Helper()
	if e != api.ErrArg || len(l) != 0 {
		t.Errorf("%s = %q, error %d; want error %d alone", what, l, e, api.ErrArg)
	}
}

func TestTheExample(t *testing.T) {
	l := pairs("v", "a", "b", "c")
	s, e := sheaf.Scan(l, "b", "", 1)
	want(t, "Scan", s, e, l[1:2])
}

// Sh1

func TestCheckOfSheaves(t *testing.T) {
	for _, l := range few("v") {
		if e := sheaf.Check(l); e != api.OK {
			t.Errorf("Check(%q): error %d", l, e)
		}
	}
	if e := sheaf.Check([]api.Pair{}); e != api.OK {
		t.Errorf("Check of an empty list: error %d", e)
	}
	if e := sheaf.Check(pairs("v", texts()...)); e != api.OK {
		t.Errorf("Check of keys by bytes: error %d", e)
	}
	// Values are in no order, and may be alike.
	if e := sheaf.Check([]api.Pair{{Key: "a", Val: "z"}, {Key: "b"}, {Key: "c"}}); e != api.OK {
		t.Errorf("Check of any values: error %d", e)
	}
}

func TestCheckOfNoSheaves(t *testing.T) {
	for _, l := range noSheaves() {
		if e := sheaf.Check(l); e != api.ErrArg {
			t.Errorf("Check(%q): error %d", l, e)
		}
	}
	for i := range len(texts()) - 1 {
		l := pairs("v", texts()...)
		l[i], l[i+1] = l[i+1], l[i]
		if e := sheaf.Check(l); e != api.ErrArg {
			t.Errorf("Check, the pairs at %d being out of order: error %d", i, e)
		}
		l = pairs("v", texts()...)
		l[i].Key = l[i+1].Key
		if e := sheaf.Check(l); e != api.ErrArg {
			t.Errorf("Check, the key at %d standing there twice: error %d", i, e)
		}
	}
}

func TestNoSheafIsRefused(t *testing.T) {
	good := pairs("w", "a", "b")
	for _, l := range noSheaves() {
		// A key of the list, one that is none, and the empty one.
		for _, key := range []string{l[0].Key, l[1].Key, "nowhere", ""} {
			s, e := sheaf.Set(l, key, "x")
			wantRefused(t, "Set", s, e)
			s, e = sheaf.Drop(l, key)
			wantRefused(t, "Drop", s, e)
			for _, most := range []int{math.MinInt, -1, 0, 1, math.MaxInt} {
				s, e = sheaf.Scan(l, key, "", most)
				wantRefused(t, "Scan", s, e)
				s, e = sheaf.Scan(l, "", key, most)
				wantRefused(t, "Scan", s, e)
			}
		}
		for _, other := range [][]api.Pair{nil, good, l} {
			s, e := sheaf.Merge(l, other)
			wantRefused(t, "Merge", s, e)
			s, e = sheaf.Merge(other, l)
			wantRefused(t, "Merge", s, e)
		}
	}
}

func TestGet(t *testing.T) {
	for _, l := range few("v") {
		for _, key := range asked() {
			v, ok := sheaf.Get(l, key)
			if right, has := value(l, key); v != right || ok != has {
				t.Errorf("Get(%q, %q) = %q, %v; want %q, %v", l, key, v, ok, right, has)
			}
		}
	}
	// An empty value stands there, too.
	if v, ok := sheaf.Get([]api.Pair{{Key: "a"}}, "a"); !ok || v != "" {
		t.Errorf("Get of an empty value = %q, %v", v, ok)
	}
}

func TestGetOfNoSheaf(t *testing.T) {
	for _, l := range noSheaves() {
		for _, p := range append(slices.Clone(l), api.Pair{Key: "nowhere"}) {
			if v, ok := sheaf.Get(l, p.Key); ok || v != "" {
				t.Errorf("Get(%q, %q) = %q, %v", l, p.Key, v, ok)
			}
		}
	}
}

func TestSet(t *testing.T) {
	for _, l := range few("v") {
		for _, key := range asked() {
			for _, val := range []string{"", "x", "\x00\xff", "v0"} {
				s, e := sheaf.Set(l, key, val)
				want(t, "Set", s, e, ordered(append(without(l, key), api.Pair{Key: key, Val: val})))
			}
		}
	}
}

func TestDrop(t *testing.T) {
	for _, l := range few("v") {
		for _, key := range asked() {
			// Of a key that is not there: as it is.
			s, e := sheaf.Drop(l, key)
			want(t, "Drop", s, e, without(l, key))
		}
	}
}

func TestSame(t *testing.T) {
	all := append(few("v"), few("w")[1:]...)
	for i, a := range all {
		for j, b := range all {
			if sheaf.Same(a, b) != (i == j) {
				t.Errorf("Same(%q, %q) = %v", a, b, i != j)
			}
		}
		if !sheaf.Same(a, slices.Clone(a)) {
			t.Errorf("Same(%q) and its copy: false", a)
		}
	}
	if !sheaf.Same(nil, []api.Pair{}) || !sheaf.Same([]api.Pair{}, nil) {
		t.Error("nil and the empty list are not the same")
	}
}

func TestSameOfNoSheaves(t *testing.T) {
	l := noSheaves()
	for i, a := range l {
		for j, b := range l {
			if sheaf.Same(a, slices.Clone(b)) != (i == j) {
				t.Errorf("Same(%q, %q) = %v", a, b, i != j)
			}
		}
	}
}

// Sh2

func TestScan(t *testing.T) {
	for _, l := range few("v") {
		for _, from := range asked() {
			for _, to := range asked() {
				for _, most := range []int{0, 1, 2, len(l), len(l) + 1, math.MaxInt} {
					s, e := sheaf.Scan(l, from, to, most)
					want(t, "Scan", s, e, scanned(l, from, to, most))
				}
			}
		}
	}
}

func TestScanOfLessThanNone(t *testing.T) {
	for _, l := range [][]api.Pair{nil, {}, pairs("v", "a", "b")} {
		for _, most := range []int{-1, -2, math.MinInt32, math.MinInt} {
			s, e := sheaf.Scan(l, "", "", most)
			wantRefused(t, "Scan", s, e)
			// Also where none would be told.
			s, e = sheaf.Scan(l, "b", "a", most)
			wantRefused(t, "Scan", s, e)
		}
	}
}

func TestScanOfKeysByBytes(t *testing.T) {
	l := pairs("v", texts()...)
	for i, from := range texts() {
		s, e := sheaf.Scan(l, from, "", len(l))
		want(t, "Scan", s, e, l[i:])
		for j, to := range texts() {
			if j == 0 {
				continue
			}
			s, e = sheaf.Scan(l, from, to, len(l))
			want(t, "Scan", s, e, l[min(i, j):j])
		}
	}
}

func TestMerge(t *testing.T) {
	for _, a := range few("v") {
		for _, b := range few("w") {
			s, e := sheaf.Merge(a, b)
			want(t, "Merge", s, e, merged(a, b))
		}
		s, e := sheaf.Merge(a, a)
		want(t, "Merge", s, e, a)
	}
}

func TestMergeOfKeysByBytes(t *testing.T) {
	all := pairs("v", texts()...)
	for _, bits := range []int{0, 0x155555, 0x2aaaaa, 0xf0f0f, 1, 0x200000} {
		s, e := sheaf.Merge(some(all, bits), some(all, ^bits))
		want(t, "Merge", s, e, all)
	}
}

// Sh3

// numbers are by a rule, so that each run of a test has the same ones.
func numbers() func(n int) int {
	seed := uint32(8)
	return func(n int) int {
		seed = seed*1664525 + 1013904223
		return int(seed>>8) % n
	}
}

func TestWhatIsSetIsGotAndOtherKeysStay(t *testing.T) {
	next := numbers()
	var l []api.Pair
	stands := map[string]string{}
	for step := range 3000 {
		key := strconv.Itoa(next(150))
		var e api.Errno
		switch next(3) {
		case 0:
			l, e = sheaf.Drop(l, key)
			delete(stands, key)
		default:
			val := "v" + strconv.Itoa(step)
			l, e = sheaf.Set(l, key, val)
			stands[key] = val
		}
		if e != api.OK || sheaf.Check(l) != api.OK || len(l) != len(stands) {
			t.Fatalf("step %d: error %d, and %d pairs: %q", step, e, len(l), l)
		}
		for i := range 150 {
			v, ok := sheaf.Get(l, strconv.Itoa(i))
			if right, has := stands[strconv.Itoa(i)]; v != right || ok != has {
				t.Fatalf("step %d: Get of %d = %q, %v; want %q, %v", step, i, v, ok, right, has)
			}
		}
	}
}

func TestTheOrderOfSettingIsNotToBeSeen(t *testing.T) {
	right := pairs("v", texts()...)
	// A stride of a prime that does not divide how many there are meets each once.
	for _, stride := range []int{1, 3, 5, 7, 13, 17, 19} {
		var l []api.Pair
		for i := range right {
			p := right[(i*stride+stride)%len(right)]
			l, _ = sheaf.Set(l, p.Key, p.Val)
		}
		if !sheaf.Same(l, right) {
			t.Errorf("by strides of %d: %q", stride, l)
		}
	}
}

func TestAScanCutAnywhereAndGoneOnIsTheScan(t *testing.T) {
	l := pairs("v", texts()...)
	for _, from := range []string{"", "9", "aZ", "\xff\xff\xff"} {
		for _, to := range []string{"", "9", "b", "\xff"} {
			whole, e := sheaf.Scan(l, from, to, len(l))
			for most := range len(whole) + 1 {
				first, f := sheaf.Scan(l, from, to, most)
				behind := from
				if most > 0 {
					// The least key behind another one is that with a zero byte.
					behind = first[most-1].Key + "\x00"
				}
				rest, g := sheaf.Scan(l, behind, to, len(l))
				if e != api.OK || f != api.OK || g != api.OK || !slices.Equal(append(first, rest...), whole) {
					t.Fatalf("from %q to %q, cut at %d: %q and %q", from, to, most, first, rest)
				}
			}
			wantCutByKeys(t, l, from, to, whole)
		}
	}
}

// wantCutByKeys cuts a scan at each key between its ends.
func wantCutByKeys(t *testing.T, l []api.Pair, from, to string, whole []api.Pair) {
	t.Helper()
	for _, cut := range append(texts(), asked()...) {
		if cut == "" || cut < from || to != "" && cut > to {
			continue
		}
		first, e := sheaf.Scan(l, from, cut, len(l))
		rest, f := sheaf.Scan(l, cut, to, len(l))
		if e != api.OK || f != api.OK || !slices.Equal(append(first, rest...), whole) {
			t.Fatalf("from %q to %q, cut at %q: %q and %q", from, to, cut, first, rest)
		}
	}
}

// R3

// spare is what stands in the room behind a list's end.
var spare = api.Pair{Key: "spare", Val: "spare"}

// roomy is a copy of a list with room behind its end, and all of that room.
func roomy(l []api.Pair) (short, all []api.Pair) {
	all = append(slices.Clone(l), spare, spare, spare)
	return all[:len(l)], all
}

// spoil turns all of a list's room, that behind its end too.
func spoil(l []api.Pair) {
	l = l[:cap(l)]
	for i := range l {
		l[i] = api.Pair{Key: "#", Val: "#"}
	}
}

// answers are what is told of two lists, from all that answers with one.
func answers(a, b []api.Pair) [][]api.Pair {
	var out [][]api.Pair
	add := func(l []api.Pair, e api.Errno) { out = append(out, l) }
	for _, key := range []string{"", "a", "b", "bb", "c", "z"} {
		add(sheaf.Set(a, key, "x"))
		add(sheaf.Drop(a, key))
		add(sheaf.Scan(a, key, "", 9))
		add(sheaf.Scan(a, "", key, 2))
		add(sheaf.Scan(a, key, "", 0))
	}
	add(sheaf.Merge(a, b))
	add(sheaf.Merge(b, a))
	add(sheaf.Merge(a, nil))
	add(sheaf.Merge(nil, a))
	add(sheaf.Merge(a, a))
	return out
}

func TestNothingIsChangedOrShared(t *testing.T) {
	lists := append(noSheaves(), pairs("v", "a", "b", "c"), pairs("v", "b"), nil, []api.Pair{})
	for _, l := range lists {
		a, roomOfA := roomy(l)
		b, roomOfB := roomy(pairs("w", "a", "bb", "d"))
		wasA, wasB := slices.Clone(roomOfA), slices.Clone(roomOfB)
		sheaf.Check(a)
		sheaf.Get(a, "b")
		sheaf.Same(a, b)
		told, again := answers(a, b), answers(a, b)
		for i := range told {
			spoil(told[i])
			if !slices.Equal(roomOfA, wasA) || !slices.Equal(roomOfB, wasB) {
				t.Fatalf("answer %d of %q shares memory with an argument, or one was changed", i, l)
			}
		}
		// Neither the arguments nor other answers are behind what was told.
		spoil(roomOfA)
		spoil(roomOfB)
		for i, right := range answers(wasA[:len(a)], wasB[:len(b)]) {
			if !slices.Equal(again[i], right) {
				t.Fatalf("answer %d of %q turned to %q", i, l, again[i])
			}
		}
	}
}

func TestSpareRoomOfAnswersIsTheirOwn(t *testing.T) {
	l := pairs("v", "a", "b", "c")
	for _, a := range answers(l, pairs("w", "d")) {
		for _, p := range a[len(a):cap(a)] {
			if p != (api.Pair{}) {
				t.Errorf("behind the end of %q stands %q", a, p)
			}
		}
	}
}

func TestNilAndTheEmptyListAreTheSame(t *testing.T) {
	for _, l := range [][]api.Pair{nil, {}} {
		if v, ok := sheaf.Get(l, ""); ok || v != "" {
			t.Errorf("Get = %q, %v", v, ok)
		}
		s, e := sheaf.Set(l, "", "")
		want(t, "Set", s, e, []api.Pair{{}})
		s, e = sheaf.Drop(l, "")
		want(t, "Drop", s, e, nil)
		s, e = sheaf.Scan(l, "", "", math.MaxInt)
		want(t, "Scan", s, e, nil)
		s, e = sheaf.Merge(l, []api.Pair{})
		want(t, "Merge", s, e, nil)
	}
}
