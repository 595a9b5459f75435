package index_test

import (
	"slices"
	"strconv"
	"strings"
	"testing"

	"tailrace/api"
	"tailrace/rank"
)

func doc(fields ...api.Field) api.Doc { return fields }

func field(path string, v api.Value) api.Field { return api.Field{Path: path, Val: v} }

// a is a document of one number.
func a(n int) api.Doc { return doc(field("a", rank.Num(n))) }

func named(key string, d api.Doc) api.Named { return api.Named{Key: key, Doc: d} }

func pair(t *testing.T, key string, values ...api.Value) api.Pair {
	t.Helper()
	k, e := rank.Key(values)
	if e != api.OK {
		t.Fatalf("rank.Key(%v): error %d", values, e)
	}
	return api.Pair{Key: k, Val: key}
}

// longest is a key as long as one may be.
func longest() string { return strings.Repeat("\xff", api.MaxKey) }

// keys are documents' keys by rising bytes, whose order by runes, letters or lengths is another one.
func keys() []string {
	return []string{"\x00", "\x00\x00", "10", "9", "B", "a", "a\x00", "aa", "b", "\xee\x80\x80", "\xf0\x90\x80\x80", "\xff", longest()}
}

// noKeys are texts that are no documents' keys.
func noKeys() []string { return []string{"", longest() + "x", strings.Repeat("k", 1000)} }

// full is a document of as many fields as one may have.
func full() api.Doc {
	var d api.Doc
	for i := range api.MaxFields {
		d = append(d, field(string(rune('a'+i)), rank.Num(i)))
	}
	return d
}

// odd are documents that may not be.
func odd() []api.Doc {
	return []api.Doc{
		doc(field("", rank.Num(1))),
		doc(field("A", rank.Num(1))),
		doc(field("a..b", rank.Num(1))),
		doc(api.Field{Path: "a"}),
		doc(field("a", api.Value{Kind: 4})),
		doc(field("a", rank.Num(api.MaxNum+1))),
		doc(field("a", rank.Text(strings.Repeat("x", api.MaxText+1)))),
		doc(field("a", rank.Point(0, -api.MaxPart-1))),
		doc(field("a", api.Value{Kind: api.ValNum, Text: "x"})),
		doc(field("b", rank.Num(1)), field("a", rank.Num(1))),
		doc(field("a", rank.Num(1)), field("a", rank.Num(1))),
		append(full(), field("z", rank.Num(1))),
	}
}

// some are documents of all kinds of values, and of none.
func some() []api.Doc {
	p := field("p", rank.Point(1, 2))
	return []api.Doc{
		nil,
		a(1), a(2), a(-3), a(api.MaxNum), a(0),
		doc(field("a", rank.Text("x"))),
		doc(field("a", rank.Text(""))),
		doc(field("a", rank.Point(-1, 4))),
		doc(field("a", rank.Num(1)), field("b", rank.Num(2))),
		doc(field("a", rank.Num(2)), field("b", rank.Num(1))),
		doc(field("a", rank.Text("Ab")), field("b", rank.Text("C"))),
		doc(field("b", rank.Num(7))),
		doc(field("a", rank.Num(1)), p),
		doc(field("a", rank.Num(1)), field("b.c", rank.Text("q")), p),
		full(),
	}
}

// defs are lists of expressions, of one up to four.
func defs() []string {
	return []string{"a", "a+b", "a*2", "low(a)", "norm(p)", "7", "a,b", "b,a", "a,a,a,a", "head(a),b", "norm(p*p)+1,a", "b.c,p,a,1", "zz"}
}

// defsRefused are what ParseAll refuses, and by which error.
func defsRefused() map[string]api.Errno {
	deep := strings.Repeat("turn(", api.MaxTerm) + "a" + strings.Repeat(")", api.MaxTerm)
	long := strings.Repeat("a", api.MaxText+1)
	return map[string]api.Errno{
		"": api.ErrText, ",": api.ErrText, "a,": api.ErrText, ",a": api.ErrText,
		"a+": api.ErrText, "A": api.ErrText, "a b": api.ErrText, "a,b,c,d,e": api.ErrText,
		deep: api.ErrDeep, "a," + deep: api.ErrDeep, deep + "," + long: api.ErrDeep,
		long: api.ErrLong, "a,b,c," + long: api.ErrLong, long + "," + deep: api.ErrLong,
	}
}

// noDocs are lists that are none of documents, wherever it is that they are not.
func noDocs() [][]api.Named {
	l := [][]api.Named{
		{named("b", a(1)), named("a", a(2))},
		{named("a", a(1)), named("a", a(2))},
		{named("a", a(1)), named("a", a(1))},
		{named("a", nil), named("c", nil), named("b", nil)},
		{named("a", nil), named("b", nil), named("a", nil)},
		{named("a", nil), named("b", nil), named("b", nil)},
		{named("aa", nil), named("a", nil)},
		{named("9", nil), named("10", nil)},
		{named("\xf0\x90\x80\x80", nil), named("\xee\x80\x80", nil)},
		{named("\xff", nil), named("\x7f", nil)},
	}
	for _, k := range noKeys() {
		l = append(l, []api.Named{named(k, a(1))}, []api.Named{named(k, nil), named(longest()+"z", nil)})
	}
	l = append(l, []api.Named{named("a", nil), named(longest()+"x", nil)})
	for _, d := range odd() {
		l = append(l,
			[]api.Named{named("a", d)},
			[]api.Named{named("a", d), named("b", nil)},
			[]api.Named{named("a", nil), named("b", d)})
	}
	return l
}

// noEntries are lists that are out of order, or have two alike, wherever that is.
func noEntries() [][]api.Pair {
	return [][]api.Pair{
		{{Key: "b"}, {Key: "a"}},
		{{}, {}},
		{{Key: "a", Val: "x"}, {Key: "a", Val: "x"}},
		{{Key: "a", Val: "y"}, {Key: "a", Val: "x"}},
		{{Key: "b", Val: "x"}, {Key: "a", Val: "y"}},
		{{Key: "a", Val: "xx"}, {Key: "a", Val: "x"}},
		{{Key: "aa", Val: "x"}, {Key: "a", Val: "y"}},
		{{Key: "9"}, {Key: "10"}},
		{{Key: "a", Val: "9"}, {Key: "a", Val: "10"}},
		{{Key: "\xff"}, {Key: "\x7f"}},
		{{Key: "k", Val: "\xf0\x90\x80\x80"}, {Key: "k", Val: "\xee\x80\x80"}},
		{{Key: "a"}, {Key: "c"}, {Key: "b"}},
		{{Key: "b"}, {Key: "a"}, {Key: "c"}},
		{{Key: "a"}, {Key: "b"}, {Key: "b"}},
		{{Key: "a"}, {Key: "b"}, {Key: "a"}},
	}
}

// many are entries with Keys that stand there more than once, and Vals that do.
func many() []api.Pair {
	var l []api.Pair
	for _, k := range []string{"", "\x00", "a", "a\x00", "aa", "b", "\xff"} {
		for i := range 3 {
			l = append(l, api.Pair{Key: k, Val: "v" + strconv.Itoa(i)})
		}
	}
	return l
}

// ordered sorts pairs by another way than the program's: both texts with their
// bytes doubled and ended, held against each other as one.
func ordered(l []api.Pair) []api.Pair {
	slices.SortFunc(l, func(x, y api.Pair) int { return strings.Compare(flat(x), flat(y)) })
	return l
}

func flat(p api.Pair) string {
	var b strings.Builder
	for i := range len(p.Key) {
		b.WriteByte(1)
		b.WriteByte(p.Key[i])
	}
	b.WriteByte(0)
	b.WriteString(p.Val)
	return b.String()
}

func want(t *testing.T, what string, l []api.Pair, e api.Errno, right []api.Pair) {
	t.Helper()
	if e != api.OK || !slices.Equal(l, right) {
		t.Fatalf("%s = %q, error %d; want %q", what, l, e, right)
	}
}

func wantRefused(t *testing.T, what string, l []api.Pair, e, right api.Errno) {
	t.Helper()
	if e != right || len(l) != 0 {
		t.Errorf("%s = %q, error %d; want error %d alone", what, l, e, right)
	}
}
