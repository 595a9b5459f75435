package seal_test

import (
	"bytes"
	"encoding/hex"
	"slices"
	"testing"

	"tailrace/api"
	"tailrace/seal"
)

// slow is the sum as the words say it, bit by bit.
func slow(b []byte) uint32 {
	reg := uint32(0xB704CE)
	for _, c := range b {
		for i := 7; i >= 0; i-- {
			out := reg >> 23
			reg = reg << 1 & 0xFFFFFF
			if out != uint32(c>>i&1) {
				reg ^= 0x864CFB
			}
		}
	}
	return reg
}

// three is a number in three bytes, the highest first.
func three(n int) []byte { return []byte{byte(n >> 16), byte(n >> 8), byte(n)} }

// headed is a head that says n, rightly summed, and what follows.
func headed(n int, rest ...byte) []byte {
	l := three(n)
	return slices.Concat(l, three(int(slow(l))), rest)
}

// sealedBytes is a sealed record as the words say it.
func sealedBytes(b []byte) []byte {
	return headed(len(b), slices.Concat(b, three(int(slow(b))))...)
}

// mixed is n bytes without a rule that is easy to see.
func mixed(n int) []byte {
	b := make([]byte, n)
	x := uint32(n + 1)
	for i := range b {
		x = x*1664525 + 1013904223
		b[i] = byte(x >> 24)
	}
	return b
}

// contents are what records have, ordinary ones and edges.
func contents() [][]byte {
	return [][]byte{
		nil, {}, {0}, {255}, []byte("a"), []byte("one"), {0, 0, 0}, {0, 0, 0, 0, 0, 0, 0, 0, 0},
		bytes.Repeat([]byte{255}, 24), mixed(6), mixed(9), mixed(255), mixed(256), mixed(257), mixed(5000),
		sealedBytes([]byte("within")), slices.Concat(sealedBytes(nil), sealedBytes([]byte("b"))),
		mixed(api.MaxRecord - 1), mixed(api.MaxRecord), make([]byte, api.MaxRecord),
	}
}

func mustRecord(t *testing.T, b []byte) []byte {
	t.Helper()
	r, e := seal.Record(b)
	if e != api.OK {
		t.Fatalf("Record of %d bytes: error %d", len(b), e)
	}
	return r
}

func wantFirst(t *testing.T, b, want []byte, took int) {
	t.Helper()
	r, n, e := seal.First(b)
	if e != api.OK || n != took || !bytes.Equal(r, want) {
		t.Fatalf("First of %d bytes: a record of %d bytes, %d taken, error %d; want %d bytes, %d taken", len(b), len(r), n, e, len(want), took)
	}
}

func wantNone(t *testing.T, b []byte, want api.Errno) {
	t.Helper()
	r, n, e := seal.First(b)
	if e != want || len(r) != 0 || n != 0 {
		t.Fatalf("First of %x.. (%d bytes): %x, %d, error %d; want error %d alone", b[:min(12, len(b))], len(b), r, n, e, want)
	}
}

func wantRow(t *testing.T, b []byte, want [][]byte, took int) {
	t.Helper()
	l, n := seal.Row(b)
	if n != took || len(l) != len(want) {
		t.Fatalf("Row of %d bytes: %d records, %d taken; want %d, %d", len(b), len(l), n, len(want), took)
	}
	for i := range want {
		if !bytes.Equal(l[i], want[i]) {
			t.Fatalf("Row of %d bytes: record %d is %x, want %x", len(b), i, l[i], want[i])
		}
	}
}

// Sl1

func TestSumOfKnownBytes(t *testing.T) {
	every := make([]byte, 256)
	for i := range every {
		every[i] = byte(i)
	}
	for _, c := range []struct {
		b    []byte
		want uint32
	}{
		{nil, 0xB704CE},
		{[]byte{}, 0xB704CE},
		{[]byte{0}, 0x6169D3},
		{[]byte("a"), 0xF25713},
		{bytes.Repeat([]byte{255}, 5), 0x4E1D11},
		{[]byte("123456789"), 0x21CF02},
		{every, 0x5BBD34},
		{make([]byte, api.MaxRecord), 0x3501B3},
	} {
		if n := seal.Sum(c.b); n != c.want {
			t.Errorf("Sum of %d bytes = %06X, want %06X", len(c.b), n, c.want)
		}
	}
}

func TestSumIsWhatTheWordsSay(t *testing.T) {
	for n := range 300 {
		if b := mixed(n); seal.Sum(b) != slow(b) {
			t.Fatalf("Sum of %x = %06X, want %06X", b, seal.Sum(b), slow(b))
		}
	}
	for i := range 256 {
		for _, b := range [][]byte{{byte(i)}, {0, byte(i)}, {byte(i), 0, 0, 255}} {
			if seal.Sum(b) != slow(b) {
				t.Fatalf("Sum of %x = %06X, want %06X", b, seal.Sum(b), slow(b))
			}
		}
	}
}

// A sum has no limit of its own: it is of what is longer than a record, too.
func TestSumOfMoreThanARecord(t *testing.T) {
	b := mixed(3*api.MaxRecord + 1)
	if seal.Sum(b) != slow(b) {
		t.Errorf("Sum = %06X, want %06X", seal.Sum(b), slow(b))
	}
}

func TestRecordsKnown(t *testing.T) {
	for in, want := range map[string]string{
		"":    "00000025ef22b704ce",
		"a":   "000001a3a3d961f25713",
		"one": "0000032976d46f6e650ab8a7",
	} {
		if r := mustRecord(t, []byte(in)); hex.EncodeToString(r) != want {
			t.Errorf("Record of %q = %x, want %s", in, r, want)
		}
	}
	for n, want := range map[int]string{258: "000102c9b567", api.MaxRecord: "00400064be69"} {
		if r := mustRecord(t, make([]byte, n)); hex.EncodeToString(r[:6]) != want {
			t.Errorf("the head of %d bytes = %x, want %s", n, r[:6], want)
		}
	}
}

func TestRecordIsWhatTheWordsSay(t *testing.T) {
	for _, b := range contents() {
		if r := mustRecord(t, b); !bytes.Equal(r, sealedBytes(b)) {
			t.Errorf("Record of %d bytes is another one", len(b))
		}
	}
}

func TestRecordTooLong(t *testing.T) {
	for _, n := range []int{api.MaxRecord + 1, api.MaxRecord + 2, 2 * api.MaxRecord, 1 << 20, 1<<24 + 1} {
		if r, e := seal.Record(make([]byte, n)); e != api.ErrLong || len(r) != 0 {
			t.Errorf("Record of %d bytes: %d bytes, error %d", n, len(r), e)
		}
	}
}

func TestFirstOfFewerThanSixBytes(t *testing.T) {
	wantNone(t, nil, api.ErrText)
	whole := sealedBytes([]byte("abc"))
	for n := range 6 {
		wantNone(t, whole[:n], api.ErrText)
		wantNone(t, make([]byte, n), api.ErrText)
	}
}

func TestFirstOfAHeadWithAnotherSum(t *testing.T) {
	wantNone(t, make([]byte, 6), api.ErrSum)
	wantNone(t, make([]byte, 100), api.ErrSum)
	wantNone(t, bytes.Repeat([]byte{255}, 100), api.ErrSum)
	for i := range 6 {
		b := sealedBytes([]byte("abc"))
		b[i]++
		wantNone(t, b, api.ErrSum)
		// A head alone: its sum is named ahead of the bytes that are not there.
		wantNone(t, b[:6], api.ErrSum)
	}
	// A length too great is no matter while its sum is another one.
	b := headed(api.MaxRecord + 1)
	b[5] ^= 1
	wantNone(t, b, api.ErrSum)
}

func TestFirstOfALengthTooGreat(t *testing.T) {
	for _, n := range []int{api.MaxRecord + 1, 1 << 15, 1 << 16, 1 << 23, 1<<24 - 1} {
		wantNone(t, headed(n), api.ErrText)
		// All is there, rightly summed or not: it is too long still.
		b := mixed(n)
		whole := headed(n, slices.Concat(b, three(int(slow(b))))...)
		wantNone(t, whole, api.ErrText)
		whole[len(whole)-1] ^= 1
		wantNone(t, whole, api.ErrText)
	}
}

func TestFirstOfFewerBytesThanTheHeadSays(t *testing.T) {
	for _, c := range [][]byte{nil, []byte("a"), []byte("abcdef"), mixed(300), mixed(api.MaxRecord)} {
		whole := sealedBytes(c)
		for _, n := range []int{6, 7, 8, 6 + len(c), 7 + len(c), 8 + len(c)} {
			if n < len(whole) {
				wantNone(t, whole[:n], api.ErrText)
			}
		}
	}
	// The record's sum is no matter while it is not there whole.
	whole := sealedBytes([]byte("abcdef"))
	whole[8] ^= 4
	wantNone(t, whole[:len(whole)-1], api.ErrText)
}

func TestFirstOfARecordWithAnotherSum(t *testing.T) {
	for _, c := range [][]byte{nil, []byte("a"), []byte("abcdef"), make([]byte, 40)} {
		for i := 6; i < len(c)+9; i++ {
			b := sealedBytes(c)
			b[i]++
			wantNone(t, b, api.ErrSum)
			wantNone(t, append(b, sealedBytes(c)...), api.ErrSum)
		}
	}
}

func TestFirstReadsARecordAndNoMore(t *testing.T) {
	wantFirst(t, sealedBytes([]byte("one")), []byte("one"), 12)
	wantFirst(t, sealedBytes(nil), nil, 9)
	wantFirst(t, slices.Concat(sealedBytes([]byte("one")), sealedBytes([]byte("two"))), []byte("one"), 12)
	wantFirst(t, append(sealedBytes([]byte("one")), 1, 2, 3), []byte("one"), 12)
	wantFirst(t, sealedBytes(mixed(api.MaxRecord)), mixed(api.MaxRecord), api.MaxRecord+9)
}

// Sl2

func TestRowOfNone(t *testing.T) {
	broken := sealedBytes([]byte("abc"))
	broken[9] ^= 1
	for _, b := range [][]byte{
		nil, {}, {0}, make([]byte, 6), make([]byte, 5000), mixed(400), []byte("123456789123456789"),
		broken, append(broken, sealedBytes([]byte("abc"))...),
		append([]byte{0}, sealedBytes([]byte("abc"))...),
		headed(api.MaxRecord+1, make([]byte, 20000)...),
		sealedBytes([]byte("abc"))[:11],
	} {
		wantRow(t, b, nil, 0)
	}
}

func TestRowReadsAll(t *testing.T) {
	var row []byte
	for i, c := range contents() {
		row = append(row, sealedBytes(c)...)
		wantRow(t, row, contents()[:i+1], len(row))
	}
}

func TestRowStopsAtWhatIsNoRecord(t *testing.T) {
	ahead := [][]byte{[]byte("one"), nil, []byte("three")}
	good := slices.Concat(sealedBytes(ahead[0]), sealedBytes(ahead[1]), sealedBytes(ahead[2]))
	broken := sealedBytes([]byte("four"))
	broken[len(broken)-1] ^= 128
	for _, rest := range [][]byte{
		nil, {0}, {1, 2, 3}, make([]byte, 300), broken,
		append(broken, sealedBytes([]byte("five"))...),
		append([]byte{7}, sealedBytes([]byte("four"))...),
		headed(3), headed(api.MaxRecord + 1),
	} {
		wantRow(t, slices.Concat(good, rest), ahead, len(good))
	}
}

// Records need not be unlike each other, nor have anything in them.
func TestRowOfManyThatAreAlike(t *testing.T) {
	const many = 5000
	wantRow(t, bytes.Repeat(sealedBytes(nil), many), make([][]byte, many), 9*many)
}

// Sl3

func TestSealedIsRead(t *testing.T) {
	for _, c := range contents() {
		r := mustRecord(t, c)
		wantFirst(t, r, c, len(r))
		wantRow(t, r, [][]byte{c}, len(r))
	}
}

func TestRecordsAreReadOneByOneWhateverFollows(t *testing.T) {
	for _, rest := range [][]byte{nil, {0}, []byte("123456789"), mixed(50)} {
		var row []byte
		for _, c := range contents() {
			row = append(row, mustRecord(t, c)...)
		}
		b := append(row, rest...)
		for _, c := range contents() {
			wantFirst(t, b, c, len(c)+9)
			b = b[len(c)+9:]
		}
		if !bytes.Equal(b, rest) {
			t.Errorf("%x is left, want %x", b, rest)
		}
	}
}

func TestRowCutAnywhereHasABeginning(t *testing.T) {
	all := [][]byte{[]byte("one"), nil, sealedBytes([]byte("within")), make([]byte, 20), mixed(33), nil, nil, []byte("end")}
	var row []byte
	var ends []int
	for _, c := range all {
		row = append(row, mustRecord(t, c)...)
		ends = append(ends, len(row))
	}
	for cut := range len(row) + 1 {
		whole, took := 0, 0
		for whole < len(ends) && ends[whole] <= cut {
			took = ends[whole]
			whole++
		}
		wantRow(t, row[:cut], all[:whole], took)
	}
}

// turned is b with the bits of pattern turned, its highest of 24 at the bit at.
func turned(b []byte, at int, pattern uint32) []byte {
	out := bytes.Clone(b)
	for i := range 24 {
		if pattern>>(23-i)&1 != 0 {
			out[(at+i)/8] ^= 128 >> ((at + i) % 8)
		}
	}
	return out
}

// patterns are bits to turn: each one alone, all, and many in between.
func patterns() []uint32 {
	l := []uint32{0xFFFFFF, 0x864CFB, 0x800001, 0xB704CE, 0xAAAAAA, 0x555555, 0xC32670, 0x400001}
	for i := range 24 {
		l = append(l, 1<<i, 1<<24-1<<i, 1<<i|1, 1<<i|1<<23)
	}
	x := uint32(1)
	for range 400 {
		x = x*1664525 + 1013904223
		l = append(l, x>>8|1)
	}
	return slices.DeleteFunc(l, func(p uint32) bool { return p&0xFFFFFF == 0 })
}

// checkTurned turns bits from bit to bit, at all places, and wants no record.
func checkTurned(t *testing.T, b []byte, from, to int) {
	t.Helper()
	for at := from; at+24 <= to; at++ {
		for _, p := range patterns() {
			bad := turned(b, at, p)
			if r, n, e := seal.First(bad); e == api.OK || n != 0 || len(r) != 0 {
				t.Fatalf("bits %06X turned at bit %d of %x: %x, %d, error %d", p, at, b, r, n, e)
			}
			if l, n := seal.Row(bad); len(l) != 0 || n != 0 {
				t.Fatalf("bits %06X turned at bit %d of %x: a row of %d, %d", p, at, b, len(l), n)
			}
		}
	}
}

func TestTurnedBitsMakeNoRecord(t *testing.T) {
	for _, c := range [][]byte{nil, {0}, []byte("one"), make([]byte, 12), mixed(20), sealedBytes([]byte("x"))} {
		b := mustRecord(t, c)
		checkTurned(t, b, 0, 48)
		checkTurned(t, b, 48, 8*len(b))
		// What follows does not mend it.
		checkTurned(t, slices.Concat(b, b, mixed(30)), 0, 48)
		checkTurned(t, slices.Concat(b, b, mixed(30)), 48, 8*len(b))
	}
}

func TestBitsTurnedInALongRecord(t *testing.T) {
	b := mustRecord(t, mixed(api.MaxRecord))
	for _, at := range []int{48, 49, 8000, 65537, 8*len(b) - 48, 8*len(b) - 25, 8*len(b) - 24} {
		for _, p := range []uint32{1, 1 << 23, 0xFFFFFF, 0x864CFB, 0x800001} {
			wantNone(t, turned(b, at, p), api.ErrSum)
		}
	}
}

// R3

func TestNothingHandedInIsTouchedOrShared(t *testing.T) {
	room := slices.Concat(sealedBytes([]byte("one")), sealedBytes([]byte("two")), []byte("behind the end"))
	was := bytes.Clone(room)
	in := room[:24]

	r, e := seal.Record(in)
	first, _, f := seal.First(in)
	l, n := seal.Row(in)
	if e != api.OK || f != api.OK || len(l) != 2 || n != 24 {
		t.Fatalf("errors %d, %d; a row of %d, %d", e, f, len(l), n)
	}
	seal.Sum(in)
	if !bytes.Equal(room, was) {
		t.Fatalf("what was handed in is %x now", room)
	}

	scribble(r)
	scribble(first)
	if !bytes.Equal(room, was) {
		t.Fatalf("an answer shares memory with an argument")
	}
	scribble(l[0])
	if !bytes.Equal(room, was) || string(l[1]) != "two" {
		t.Fatalf("a record of a row shares memory: %q", l[1])
	}
	scribble(l[1])
	if !bytes.Equal(room, was) {
		t.Fatalf("the last record of a row shares memory with an argument")
	}
}

// scribble writes over all of b, its spare room too.
func scribble(b []byte) {
	b = b[:cap(b)]
	for i := range b {
		b[i] = '#'
	}
}
