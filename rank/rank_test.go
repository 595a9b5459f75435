package rank_test

import (
	"bytes"
	"cmp"
	"math"
	"slices"
	"strings"
	"testing"

	"tailrace/api"
	"tailrace/rank"
)

const noughts = "\x00\x00\x00\x00\x00\x00\x00"

// of is a list of values.
func of(l ...api.Value) []api.Value { return l }

// texts are of many lengths, and alike but for their ends.
func texts() []string {
	l := []string{"\x00", "\x00\x00", "\x01", "\x07", "\x08", "\t", "b", "\xff", "aaaaaab", "aaaaaa\x00", "aaaaaaa\x00", "aaaaaaa\x00\x00", "aaaaaaa\xff"}
	for _, n := range []int{0, 1, 2, 5, 6, 7, 8, 9, 13, 14, 15, 20, 21, 22, 251, 252, 253, 255, 256} {
		l = append(l, strings.Repeat("a", n))
	}
	for n := 1; n <= 15; n++ {
		l = append(l, noughts[:min(n, 7)]+strings.Repeat("\x00", max(0, n-7)), strings.Repeat("\xff", n))
	}
	slices.Sort(l)
	return slices.Compact(l)
}

// values are all in their order, each once.
func values() []api.Value {
	var l []api.Value
	for _, n := range []int{-1 << 53, -1<<53 + 1, -1 << 32, -257, -256, -255, -2, -1, 0, 1, 2, 127, 128, 255, 256, 1 << 31, 1 << 32, 1<<53 - 1, 1 << 53} {
		l = append(l, rank.Num(n))
	}
	for _, s := range texts() {
		l = append(l, rank.Text(s))
	}
	parts := []int{-1 << 20, -1, 0, 1, 1 << 20}
	for _, re := range parts {
		for _, im := range parts {
			l = append(l, rank.Point(re, im))
		}
	}
	return l
}

// lists are some of values, and of each other's beginnings.
func lists() [][]api.Value {
	some := of(rank.Num(-1), rank.Num(1<<53), rank.Text(""), rank.Text("a"), rank.Text("a\x00"), rank.Text("aaaaaaa"), rank.Text("aaaaaaaa"), rank.Point(-1, 1), rank.Point(0, 0))
	l := [][]api.Value{nil}
	for _, a := range some {
		l = append(l, of(a))
		for _, b := range some {
			l = append(l, of(a, b))
			for _, c := range some {
				l = append(l, of(a, b, c))
			}
		}
	}
	for _, v := range values() {
		l = append(l, of(v, v), of(v, rank.Text("x")))
	}
	return append(l, slices.Repeat(of(rank.Num(7)), 15), slices.Repeat(of(rank.Num(7)), 16))
}

func key(t *testing.T, l []api.Value) string {
	t.Helper()
	k, e := rank.Key(l)
	if e != api.OK {
		t.Fatalf("Key(%v) tells %d", l, e)
	}
	return k
}

// Ra1

func TestCheck(t *testing.T) {
	long, longest := strings.Repeat("a", 257), strings.Repeat("a", 256)
	for _, x := range []struct {
		name string
		v    api.Value
		want api.Errno
	}{
		{"nought", rank.Num(0), api.OK},
		{"greatest number", rank.Num(1 << 53), api.OK},
		{"least number", rank.Num(-1 << 53), api.OK},
		{"too great a number", rank.Num(1<<53 + 1), api.ErrArg},
		{"too small a number", rank.Num(-1<<53 - 1), api.ErrArg},
		{"greatest int", rank.Num(math.MaxInt), api.ErrArg},
		{"least int", rank.Num(math.MinInt), api.ErrArg},
		{"number with a text", api.Value{Kind: api.ValNum, Text: "a"}, api.ErrArg},
		{"number with too long a text", api.Value{Kind: api.ValNum, Text: long}, api.ErrArg},
		{"number with Re", api.Value{Kind: api.ValNum, Point: api.Point{Re: 1}}, api.ErrArg},
		{"number with Im", api.Value{Kind: api.ValNum, Point: api.Point{Im: 1}}, api.ErrArg},
		{"empty text", rank.Text(""), api.OK},
		{"any bytes", rank.Text("\x00\xff"), api.OK},
		{"longest text", rank.Text(longest), api.OK},
		{"too long a text", rank.Text(long), api.ErrLong},
		{"text with a number", api.Value{Kind: api.ValText, Text: longest, Num: 1}, api.ErrArg},
		{"text with Re", api.Value{Kind: api.ValText, Text: "a", Point: api.Point{Re: -1}}, api.ErrArg},
		{"text with Im", api.Value{Kind: api.ValText, Point: api.Point{Im: -1}}, api.ErrArg},
		{"too long a text with a number", api.Value{Kind: api.ValText, Text: long, Num: 1}, api.ErrLong},
		{"too long a text with a point", api.Value{Kind: api.ValText, Text: long, Point: api.Point{Re: 1}}, api.ErrLong},
		{"point nought", rank.Point(0, 0), api.OK},
		{"greatest point", rank.Point(1<<20, 1<<20), api.OK},
		{"least point", rank.Point(-1<<20, -1<<20), api.OK},
		{"too great Re", rank.Point(1<<20+1, 0), api.ErrArg},
		{"too small Re", rank.Point(-1<<20-1, 0), api.ErrArg},
		{"too great Im", rank.Point(0, 1<<20+1), api.ErrArg},
		{"too small Im", rank.Point(0, -1<<20-1), api.ErrArg},
		{"least ints", rank.Point(math.MinInt, math.MinInt), api.ErrArg},
		{"point with a number", api.Value{Kind: api.ValPoint, Num: 1}, api.ErrArg},
		{"point with a text", api.Value{Kind: api.ValPoint, Text: "a"}, api.ErrArg},
		{"point with too long a text", api.Value{Kind: api.ValPoint, Text: long}, api.ErrArg},
		{"no kind", api.Value{}, api.ErrArg},
		{"kind behind the last", api.Value{Kind: api.ValPoint + 1}, api.ErrArg},
		{"kind below 0", api.Value{Kind: -1}, api.ErrArg},
		{"kind a byte too great", api.Value{Kind: 256 + api.ValNum}, api.ErrArg},
		{"no kind with too long a text", api.Value{Text: long}, api.ErrArg},
	} {
		if e := rank.Check(x.v); e != x.want {
			t.Errorf("%s: Check tells %d, not %d", x.name, e, x.want)
		}
	}
}

func TestMakers(t *testing.T) {
	if v := rank.Num(-7); v != (api.Value{Kind: api.ValNum, Num: -7}) {
		t.Errorf("Num = %v", v)
	}
	if v := rank.Text("a\x00"); v != (api.Value{Kind: api.ValText, Text: "a\x00"}) {
		t.Errorf("Text = %v", v)
	}
	if v := rank.Point(-1, 2); v != (api.Value{Kind: api.ValPoint, Point: api.Point{Re: -1, Im: 2}}) {
		t.Errorf("Point = %v", v)
	}
	if v := rank.Num(math.MinInt); v.Num != math.MinInt {
		t.Errorf("Num of what may not be = %v", v)
	}
	if v := rank.Text(strings.Repeat("a", 300)); len(v.Text) != 300 {
		t.Errorf("Text of what may not be = %v", v)
	}
	if v := rank.Point(math.MaxInt, math.MinInt); v.Point != (api.Point{Re: math.MaxInt, Im: math.MinInt}) {
		t.Errorf("Point of what may not be = %v", v)
	}
}

func TestCompare(t *testing.T) {
	all := values()
	for i, a := range all {
		for j, b := range all {
			if n := rank.Compare(a, b); n != cmp.Compare(i, j) {
				t.Fatalf("Compare(%v, %v) = %d", a, b, n)
			}
			if n := rank.CompareAll(of(a), of(b)); n != cmp.Compare(i, j) {
				t.Fatalf("CompareAll of one each, %v and %v = %d", a, b, n)
			}
		}
	}
}

func TestCompareAll(t *testing.T) {
	one, two := rank.Num(1), rank.Num(2)
	for _, x := range []struct {
		a, b []api.Value
		want int
	}{
		{nil, nil, 0},
		{nil, of(), 0},
		{nil, of(one), -1},
		{of(one), of(one), 0},
		{of(one), of(one, one), -1},
		{of(two), of(one, one), 1},
		{of(one, two), of(one, one, two), 1},
		{of(one, two), of(two, one), -1},
		{of(two, one), of(rank.Text("")), -1},
		{of(rank.Text("b")), of(rank.Text("ab"), one), 1},
		{of(rank.Point(1, 2), one), of(rank.Point(1, 2), two), -1},
		{slices.Repeat(of(one), 20), slices.Repeat(of(one), 21), -1},
	} {
		if n := rank.CompareAll(x.a, x.b); n != x.want {
			t.Errorf("CompareAll(%v, %v) = %d", x.a, x.b, n)
		}
		if n := rank.CompareAll(x.b, x.a); n != -x.want {
			t.Errorf("CompareAll(%v, %v) = %d", x.b, x.a, n)
		}
	}
}

// Ra2

func TestKey(t *testing.T) {
	for _, x := range []struct {
		name string
		l    []api.Value
		want string
	}{
		{"no values", nil, ""},
		{"nought", of(rank.Num(0)), "\x01\x40" + noughts},
		{"one", of(rank.Num(1)), "\x01\x40\x00\x00\x00\x00\x00\x00\x01"},
		{"below nought", of(rank.Num(-1)), "\x01\x3f\xff\xff\xff\xff\xff\xff\xff"},
		{"greatest", of(rank.Num(1 << 53)), "\x01\x40\x20\x00\x00\x00\x00\x00\x00"},
		{"least", of(rank.Num(-1 << 53)), "\x01\x3f\xe0\x00\x00\x00\x00\x00\x00"},
		{"many bytes", of(rank.Num(0x01020304050607)), "\x01\x40\x01\x02\x03\x04\x05\x06\x07"},
		{"the chapter's", of(rank.Text("ab")), "\x02ab\x00\x00\x00\x00\x00\x02"},
		{"empty text", of(rank.Text("")), "\x02" + noughts + "\x00"},
		{"six", of(rank.Text("abcdef")), "\x02abcdef\x00\x06"},
		{"seven", of(rank.Text("abcdefg")), "\x02abcdefg\x08" + noughts + "\x00"},
		{"eight", of(rank.Text("abcdefgh")), "\x02abcdefg\x08h\x00\x00\x00\x00\x00\x00\x01"},
		{"a nought at the end", of(rank.Text("abcdefg\x00")), "\x02abcdefg\x08" + noughts + "\x01"},
		{"fourteen", of(rank.Text("abcdefghijklmn")), "\x02abcdefg\x08hijklmn\x08" + noughts + "\x00"},
		{"longest", of(rank.Text(strings.Repeat("a", 256))), "\x02" + strings.Repeat("aaaaaaa\x08", 36) + "aaaa\x00\x00\x00\x04"},
		{"point", of(rank.Point(-1, 2)), "\x03\x3f\xff\xff\xff\xff\xff\xff\xff\x40\x00\x00\x00\x00\x00\x00\x02"},
		{"greatest point", of(rank.Point(1<<20, -1<<20)), "\x03\x40\x00\x00\x00\x00\x10\x00\x00\x3f\xff\xff\xff\xff\xf0\x00\x00"},
		{"two", of(rank.Num(0), rank.Text("a")), "\x01\x40" + noughts + "\x02a\x00\x00\x00\x00\x00\x00\x01"},
		{"sixteen", slices.Repeat(of(rank.Num(0)), 16), strings.Repeat("\x01\x40"+noughts, 16)},
	} {
		if k, e := rank.Key(x.l); e != api.OK || k != x.want {
			t.Errorf("%s: Key = %x, %d", x.name, k, e)
		}
		if l, e := rank.Parse(x.want); e != api.OK || !slices.Equal(l, x.l) {
			t.Errorf("%s: Parse = %v, %d", x.name, l, e)
		}
	}
}

func TestKeyRefuses(t *testing.T) {
	fine, odd, long := rank.Num(1), rank.Num(1<<53+1), rank.Text(strings.Repeat("a", 257))
	for _, x := range []struct {
		name string
		l    []api.Value
		want api.Errno
	}{
		{"too many", slices.Repeat(of(fine), 17), api.ErrLong},
		{"too many that may not be", slices.Repeat(of(odd), 17), api.ErrLong},
		{"sixteen that may not be", slices.Repeat(of(odd), 16), api.ErrArg},
		{"one that may not be", of(odd), api.ErrArg},
		{"no kind", of(api.Value{}), api.ErrArg},
		{"too long a text", of(long), api.ErrLong},
		{"the first one tells", of(fine, odd, long), api.ErrArg},
		{"the first one tells that it is long", of(fine, long, odd), api.ErrLong},
		{"the last of sixteen", append(slices.Repeat(of(fine), 15), odd), api.ErrArg},
	} {
		if k, e := rank.Key(x.l); e != x.want || k != "" {
			t.Errorf("%s: Key = %x, %d, not %d", x.name, k, e, x.want)
		}
	}
}

func TestParseRefuses(t *testing.T) {
	one := "\x01\x40" + noughts
	for _, x := range []struct{ name, key string }{
		{"kind alone", "\x01"},
		{"text's kind alone", "\x02"},
		{"point's kind alone", "\x03"},
		{"no kind", "\x00"},
		{"no kind with a number", "\x00\x40" + noughts},
		{"kind behind the last", "\x04\x40" + noughts},
		{"short of a byte", one[:8]},
		{"a byte behind", one + "\x00"},
		{"a kind behind", one + "\x01"},
		{"half a point", "\x03\x40" + noughts},
		{"point short of a byte", "\x03\x40" + noughts + "\x40" + noughts[:6]},
		{"too great a number", "\x01\x40\x20\x00\x00\x00\x00\x00\x01"},
		{"too small a number", "\x01\x3f\xdf\xff\xff\xff\xff\xff\xff"},
		{"greatest bytes", "\x01\xff\xff\xff\xff\xff\xff\xff\xff"},
		{"least bytes", "\x01\x00" + noughts},
		{"highest bit", "\x01\xc0" + noughts},
		{"too great Re", "\x03\x40\x00\x00\x00\x00\x10\x00\x01\x40" + noughts},
		{"too small Im", "\x03\x40" + noughts + "\x3f\xff\xff\xff\xff\xef\xff\xff"},
		{"text without its mark", "\x02ab\x00\x00\x00\x00\x00"},
		{"text that should go on", "\x02abcdefg\x08"},
		{"text that goes on for too short", "\x02abcdefg\x08" + noughts},
		{"mark of seven", "\x02abcdefg\x07"},
		{"mark above all", "\x02abcdefg\x09"},
		{"greatest mark", "\x02abcdefg\xff"},
		{"no noughts behind the end", "\x02abc\x00\x00\x00\x00\x02"},
		{"no nought at the group's end", "\x02ab\x00\x00\x00\x00c\x02"},
		{"an empty text that has bytes", "\x02a\x00\x00\x00\x00\x00\x00\x00"},
		{"too long a text", "\x02" + strings.Repeat("aaaaaaa\x08", 36) + "aaaaa\x00\x00\x05"},
		{"too long by a group", "\x02" + strings.Repeat("aaaaaaa\x08", 37) + noughts + "\x00"},
		{"too long by far", "\x02" + strings.Repeat("aaaaaaa\x08", 1000)},
		{"seventeen values", strings.Repeat(one, 17)},
		{"one that is none behind one", one + "\x04"},
	} {
		if l, e := rank.Parse(x.key); e != api.ErrText || len(l) != 0 {
			t.Errorf("%s: Parse = %v, %d", x.name, l, e)
		}
	}
}

// Every key that Parse takes is the key of what it tells: bytes of keys are
// turned one by one, so that most of them are next to a key.
func TestParseTakesKeysAlone(t *testing.T) {
	taken := 0
	for _, l := range [][]api.Value{of(rank.Num(-3), rank.Text("ab")), of(rank.Text("abcdefgh")), of(rank.Text("abcdefg"), rank.Point(1, -1))} {
		k := key(t, l)
		for i := range len(k) {
			for x := range 256 {
				b := []byte(k)
				b[i] = byte(x)
				p, e := rank.Parse(string(b))
				if e == api.OK {
					taken++
					if key(t, p) != string(b) {
						t.Fatalf("Parse(%x) = %v", b, p)
					}
				} else if e != api.ErrText || len(p) != 0 {
					t.Fatalf("Parse(%x) = %v, %d", b, p, e)
				}
			}
		}
	}
	if taken < 1000 {
		t.Errorf("only %d keys were taken", taken)
	}
}

func FuzzParse(f *testing.F) {
	for _, v := range values() {
		k, _ := rank.Key(of(v, v))
		f.Add(k)
	}
	f.Fuzz(func(t *testing.T, s string) {
		l, e := rank.Parse(s)
		if e == api.OK && key(t, l) != s || e != api.OK && (e != api.ErrText || len(l) != 0) {
			t.Errorf("Parse(%x) = %v, %d", s, l, e)
		}
	})
}

// Ra3

func TestKeysAreOrderedAsValues(t *testing.T) {
	all := values()
	for i, a := range all {
		k := key(t, of(a))
		if p, e := rank.Parse(k); e != api.OK || !slices.Equal(p, of(a)) {
			t.Errorf("Parse of Key of %v = %v, %d", a, p, e)
		}
		if i > 0 && key(t, of(all[i-1])) >= k {
			t.Errorf("the key of %v is not behind that of %v", a, all[i-1])
		}
	}
}

func TestKeysAreOrderedAsLists(t *testing.T) {
	all := lists()
	keys := make([]string, len(all))
	for i, l := range all {
		keys[i] = key(t, l)
		if p, e := rank.Parse(keys[i]); e != api.OK || !slices.Equal(p, l) {
			t.Fatalf("Parse of Key of %v = %v, %d", l, p, e)
		}
	}
	for i, a := range all {
		for j, b := range all {
			if cmp.Compare(keys[i], keys[j]) != rank.CompareAll(a, b) {
				t.Fatalf("%v and %v: CompareAll tells %d", a, b, rank.CompareAll(a, b))
			}
			begins := len(a) <= len(b) && slices.Equal(a, b[:len(a)])
			if strings.HasPrefix(keys[j], keys[i]) != begins {
				t.Fatalf("%v and %v: the one's key begins the other one's, or the list does", a, b)
			}
		}
	}
}

// R1, R3

func TestCompareEndsOnWhatMayNotBe(t *testing.T) {
	odd := of(api.Value{}, api.Value{Kind: -1, Num: math.MinInt}, rank.Num(math.MaxInt), rank.Point(math.MinInt, 1), rank.Text(strings.Repeat("a", 1000)))
	for _, a := range odd {
		for _, b := range odd {
			rank.Compare(a, b)
			rank.CompareAll(of(a, b), of(b, a))
		}
	}
}

func TestNothingIsSharedOrChanged(t *testing.T) {
	l := of(rank.Num(1), rank.Text("ab"), rank.Num(9))
	k := key(t, l[:2])
	rank.CompareAll(l[:2], l[:1])
	if !slices.Equal(l, of(rank.Num(1), rank.Text("ab"), rank.Num(9))) {
		t.Errorf("the list is %v", l)
	}
	a, _ := rank.Parse(k)
	b, _ := rank.Parse(k)
	a[0] = rank.Num(5)
	if !slices.Equal(b, l[:2]) || !bytes.Equal([]byte(k), []byte(key(t, l[:2]))) {
		t.Errorf("the lists are %v and %v", a, b)
	}
}
