package depot_test

import (
	"fmt"
	"math"
	"reflect"
	"slices"
	"strings"
	"testing"

	"tailrace/api"
	"tailrace/depot"
	"tailrace/rank"
)

func doc(fields ...api.Field) api.Doc { return fields }

func field(path string, v api.Value) api.Field { return api.Field{Path: path, Val: v} }

// a is a document of one number.
func a(n int) api.Doc { return doc(field("a", rank.Num(n))) }

func named(key string, d api.Doc) api.Named { return api.Named{Key: key, Doc: d} }

func put(key string, d api.Doc) api.Op { return api.Op{Kind: api.OpPut, Key: key, Doc: d} }

func del(key string) api.Op { return api.Op{Kind: api.OpDelete, Key: key} }

// cas asks for want to be there ahead, casNone for nothing.
func cas(key string, want, d api.Doc) api.Op {
	return api.Op{Kind: api.OpCas, Key: key, Has: true, Want: want, Doc: d}
}

func casNone(key string, d api.Doc) api.Op { return api.Op{Kind: api.OpCas, Key: key, Doc: d} }

func batch(l ...api.Op) api.Op { return api.Op{Kind: api.OpBatch, List: l} }

func get(key string) api.Op { return api.Op{Kind: api.OpGet, Key: key} }

func scan(key, to string, most int) api.Op {
	return api.Op{Kind: api.OpScan, Key: key, To: to, Most: most}
}

func open(name string, n int) api.Op { return api.Op{Kind: api.OpOpen, Key: name, N: n} }

func ack(name string, n int) api.Op { return api.Op{Kind: api.OpAck, Key: name, N: n} }

func closing(name string) api.Op { return api.Op{Kind: api.OpClose, Key: name} }

func trim(n int) api.Op { return api.Op{Kind: api.OpTrim, N: n} }

func read(name string, most int) api.Op { return api.Op{Kind: api.OpRead, Key: name, Most: most} }

func pull(n, most int) api.Op { return api.Op{Kind: api.OpPull, N: n, Most: most} }

func snap() api.Op { return api.Op{Kind: api.OpSnap} }

func stands(pos int, key string, d api.Doc) api.Change {
	return api.Change{Pos: pos, Key: key, Has: true, Doc: d}
}

func gone(pos int, key string) api.Change { return api.Change{Pos: pos, Key: key} }

func sub(name string, pos int) api.Sub { return api.Sub{Name: name, Pos: pos} }

func last(client, id int, answer api.Answer) api.Last {
	return api.Last{Client: client, Id: id, Answer: answer}
}

func of(client, id int, o api.Op) api.Request {
	return api.Request{Client: client, Id: id, Op: o}
}

func code(e api.Errno) api.Answer { return api.Answer{Code: e} }

// longest is a key as long as one may be.
func longest() string { return strings.Repeat("\xff", api.MaxKey) }

// heaviest is the greatest document there is: too heavy to be put, but it may be.
func heaviest() api.Doc {
	var d api.Doc
	for i := range api.MaxFields {
		path := string(rune('a'+i)) + strings.Repeat("x", api.MaxKey-1)
		d = append(d, field(path, rank.Text(strings.Repeat("\xff", api.MaxText))))
	}
	return d
}

// odd is a document that may not be.
func odd() api.Doc { return doc(field("b", rank.Num(1)), field("a", rank.Num(1))) }

// oddAnswer is one that nothing is answered, with odd things in all its parts.
func oddAnswer() api.Answer {
	return api.Answer{
		Code: -7, Has: true, Doc: odd(), Docs: []api.Named{named("b", odd()), named("", nil)}, N: math.MinInt, Total: -1,
		News: []api.Change{stands(-3, "", odd()), gone(9, "x")}, Keys: []api.Pair{{Key: "b", Val: "x"}, {Key: "a"}},
	}
}

// row is so many documents, with keys of five digits.
func row(n int) []api.Named {
	var l []api.Named
	for i := range n {
		l = append(l, named(fmt.Sprintf("%05d", i), a(i)))
	}
	return l
}

// news is the changes behind a place, up to another one; every third one is
// of what is gone.
func news(from, to int) []api.Change {
	var l []api.Change
	for pos := from + 1; pos <= to; pos++ {
		if pos%3 == 0 {
			l = append(l, gone(pos, "y"))
		} else {
			l = append(l, stands(pos, fmt.Sprint("k", pos), a(pos)))
		}
	}
	return l
}

func feedOf(base, total int, subs ...api.Sub) api.Feed {
	return api.Feed{Base: base, Total: total, Changes: news(base, total), Subs: subs}
}

// lasts is what so many clients asked last, of numbers 10, 20, .. and Ids 1, 2, ..
func lasts(n int) []api.Last {
	var l []api.Last
	for i := range n {
		l = append(l, last(10*(i+1), i+1, api.Answer{N: i}))
	}
	return l
}

// subsAt is so many subscriptions, s0, s1, .., at one place.
func subsAt(n, pos int) []api.Sub {
	var l []api.Sub
	for i := range n {
		l = append(l, sub(fmt.Sprint("s", i), pos))
	}
	return l
}

// busy is a depot that has something of all.
func busy() api.Depot {
	return api.Depot{
		Docs: []api.Named{named("a", a(1)), named("b", nil), named("k5", a(5))},
		Feed: feedOf(2, 20, sub("early", 2), sub("late", 20), sub("mid", 9)),
		Last: []api.Last{last(5, 7, api.Answer{Code: api.ErrCas, Has: true, Doc: a(4)}), last(9, 2, api.Answer{N: 19})},
	}
}

// full is a depot that has no room for one more of anything but changes.
func full() api.Depot {
	return api.Depot{Docs: row(api.MaxDocs), Feed: feedOf(0, 40, subsAt(api.MaxSubs, 3)...), Last: lasts(api.MaxLast)}
}

// worn is a depot whose feed has so many changes behind it.
func worn(total int) api.Depot {
	return api.Depot{Docs: row(3), Feed: feedOf(total-3, total, sub("s", total-2)), Last: lasts(3)}
}

// depots are those that may be.
func depots() []api.Depot {
	const top = api.MaxCount
	return []api.Depot{
		{},
		{Docs: []api.Named{}, Feed: api.Feed{Changes: []api.Change{}, Subs: []api.Sub{}}, Last: []api.Last{}},
		busy(), full(),
		worn(top), worn(top - 1), worn(top - 7), worn(top - 8), worn(top - 9),
		// Its documents need not be what its changes make, nor be light.
		{Docs: row(4)},
		{Feed: feedOf(0, 5)},
		{Docs: []api.Named{named("\x00", heaviest()), named(longest(), nil)}},
		{Last: lasts(1)}, {Last: lasts(7)}, {Last: lasts(8)},
		{Last: []api.Last{last(1, 1, api.Answer{}), last(2, top, api.Answer{}), last(top-1, 1, api.Answer{}), last(top, top, api.Answer{})}},
		// What was answered may be anything.
		{Last: []api.Last{last(3, 3, oddAnswer())}},
	}
}

// noDepots are those that may not be, each for one reason.
func noDepots() []api.Depot {
	const top = api.MaxCount
	var l []api.Depot
	for _, docs := range [][]api.Named{
		row(api.MaxDocs + 1), {named("b", nil), named("a", nil)}, {named("a", nil), named("a", nil)},
		{named("", nil)}, {named(longest()+"x", nil)}, {named("a", odd())}, {named("a", nil), named("b", odd())},
	} {
		l = append(l, api.Depot{Docs: docs})
	}
	for _, f := range []api.Feed{
		{Base: -1, Total: -1}, {Base: 2, Total: 1}, {Total: 1}, {Base: top + 1, Total: top + 1}, {Total: 1, Changes: []api.Change{gone(2, "a")}},
		{Total: 1, Changes: []api.Change{gone(1, "")}}, {Total: 1, Changes: []api.Change{stands(1, "a", odd())}}, {Total: 1, Changes: []api.Change{{Pos: 1, Key: "a", Doc: a(1)}}},
		{Subs: []api.Sub{sub("a", 1)}}, {Subs: []api.Sub{sub("", 0)}}, {Subs: []api.Sub{sub("b", 0), sub("a", 0)}}, feedOf(2, 5, subsAt(api.MaxSubs+1, 3)...),
	} {
		l = append(l, api.Depot{Feed: f})
	}
	one := func(client, id int) api.Last { return last(client, id, api.Answer{}) }
	for _, lasts := range [][]api.Last{
		lasts(api.MaxLast + 1), lasts(100), {{}}, make([]api.Last, api.MaxLast),
		{one(0, 1)}, {one(-1, 1)}, {one(top+1, 1)}, {one(math.MinInt, 1)}, {one(math.MaxInt, 1)},
		{one(1, 0)}, {one(1, -1)}, {one(1, top+1)}, {one(1, math.MinInt)}, {one(1, math.MaxInt)},
		{one(1, 1), one(1, 1)}, {one(1, 1), one(1, 2)}, {one(2, 1), one(1, 1)}, {one(1, 1), one(3, 1), one(2, 1)}, {one(1, 1), one(2, 1), one(2, 1)},
		{one(0, 1), one(1, 1)}, {one(1, 0), one(2, 1)}, {one(1, 1), one(2, 0)}, {one(1, 1), one(top+1, 1)}, {one(1, 1), one(2, top+1)},
	} {
		l = append(l, api.Depot{Last: lasts}, api.Depot{Docs: busy().Docs, Feed: busy().Feed, Last: lasts})
	}
	return l
}

// turning is some of each kind that may turn a depot, done and refused.
func turning() []api.Op {
	return []api.Op{
		put("x", a(1)), put("a", nil), put("", a(1)), put("x", odd()), put("x", heaviest()),
		del("a"), del("00003"), del("nowhere"), del(""),
		cas("a", a(1), a(2)), cas("a", a(9), a(2)), cas("nowhere", nil, nil), casNone("x", a(3)), casNone("a", a(3)), casNone("00001", nil), casNone("", nil),
		batch(put("x", a(1)), del("x"), put("y", nil), casNone("x", a(2))), batch(put("x", a(1)), del("nowhere")), batch(), batch(get("a")), batch(open("o", 0)),
		open("o", 0), open("o", 20), open("mid", 9), open("o", 21), open("o", -1), open("", 3), open("s0", 3), open("s", api.MaxCount-9),
		ack("mid", 9), ack("mid", 20), ack("mid", 8), ack("late", 21), ack("nobody", 3), ack("s", api.MaxCount), ack("", 0),
		closing("mid"), closing("s3"), closing("s"), closing("nobody"), closing(""),
		trim(0), trim(5), trim(-1), trim(api.MaxCount), trim(math.MaxInt),
	}
}

// reading is some of each kind that never does.
func reading() []api.Op {
	return []api.Op{
		get("a"), get("00002"), get("nowhere"), get(""), get(longest() + "x"),
		scan("", "", 24), scan("a", "b", 1), scan("00002", "", 3), scan("z", "", 2), scan("", "", 0), scan("", "", 25), scan(longest()+"x", "", 1),
		read("mid", 16), read("early", 3), read("late", 1), read("s", 2), read("nobody", 1), read("mid", 0), read("mid", 17), read("", 1),
		pull(2, 16), pull(9, 1), pull(20, 3), pull(1, 1), pull(0, 16), pull(21, 1), pull(-1, 1), pull(2, 0), pull(2, 17), pull(api.MaxCount, 1), pull(api.MaxCount-2, 16),
		snap(),
	}
}

// others are of kinds that are none.
func others() []api.Op {
	kinds := []int{math.MinInt, -1, 0, api.OpKinds, api.OpKinds + 1, math.MaxInt}
	for k := api.OpLoad - 1; k <= api.OpShelfKinds; k++ {
		kinds = append(kinds, k)
	}
	var l []api.Op
	for _, k := range kinds {
		l = append(l, api.Op{Kind: k}, api.Op{Kind: k, Key: "a", Doc: a(1), N: 9, Most: 3, List: []api.Op{put("x", nil)}})
	}
	return l
}

// dressed is what is asked, with all parts that have no meaning for its kind
// such as may not be.
func dressed(o api.Op) api.Op {
	bad := api.Op{
		Kind: o.Kind, Key: longest() + "x", To: longest() + "x", Doc: odd(), Want: odd(), Has: true, N: -9, Most: -9,
		List: []api.Op{put("a", a(1)), get("a")}, Docs: row(2), News: []api.Change{stands(-1, "", odd())},
	}
	if !slices.Contains([]int{api.OpBatch, api.OpTrim, api.OpPull, api.OpSnap}, o.Kind) {
		bad.Key = o.Key
	}
	switch o.Kind {
	case api.OpPut:
		bad.Doc = o.Doc
	case api.OpCas:
		bad.Doc, bad.Has, bad.Want = o.Doc, o.Has, o.Want
	case api.OpBatch:
		bad.List = o.List
	case api.OpScan:
		bad.To, bad.Most = o.To, o.Most
	case api.OpOpen, api.OpAck, api.OpTrim:
		bad.N = o.N
	case api.OpRead:
		bad.Most = o.Most
	case api.OpPull:
		bad.N, bad.Most = o.N, o.Most
	}
	return bad
}

// plain is a list with nil for each empty one in it, so that depots can be
// held against each other by another way than the program's.
func plain[T any](l []T, one func(T) T) []T {
	var out []T
	for _, x := range l {
		out = append(out, one(x))
	}
	return out
}

func plainNamed(n api.Named) api.Named { return named(n.Key, append(api.Doc(nil), n.Doc...)) }

func plainChange(c api.Change) api.Change {
	c.Doc = append(api.Doc(nil), c.Doc...)
	return c
}

func plainAnswer(x api.Answer) api.Answer {
	x.Doc = append(api.Doc(nil), x.Doc...)
	x.Docs, x.News, x.Keys = plain(x.Docs, plainNamed), plain(x.News, plainChange), append([]api.Pair(nil), x.Keys...)
	return x
}

func plainLast(l api.Last) api.Last { return last(l.Client, l.Id, plainAnswer(l.Answer)) }

func plainDepot(d api.Depot) api.Depot {
	d.Docs, d.Last = plain(d.Docs, plainNamed), plain(d.Last, plainLast)
	d.Feed.Changes, d.Feed.Subs = plain(d.Feed.Changes, plainChange), append([]api.Sub(nil), d.Feed.Subs...)
	return d
}

func sameDepot(x, y api.Depot) bool { return reflect.DeepEqual(plainDepot(x), plainDepot(y)) }

func sameAnswer(x, y api.Answer) bool { return reflect.DeepEqual(plainAnswer(x), plainAnswer(y)) }

// want makes a request, and holds what comes of it against what must.
func want(t *testing.T, d api.Depot, q api.Request, then api.Depot, told api.Answer) {
	t.Helper()
	got, told2, e := depot.Apply(d, q)
	if e != api.OK || !sameDepot(got, then) || !sameAnswer(told2, told) {
		t.Fatalf("%+v of %+v:\n%+v, %+v, error %d; want\n%+v, %+v", q, d, got, told2, e, then, told)
	}
	if depot.Check(got) != api.OK {
		t.Fatalf("%+v of %+v: what comes of it may not be", q, d)
	}
}

// with is a depot with what a client asked last, by another way than the program's.
func with(d api.Depot, l api.Last) api.Depot {
	d = plainDepot(d)
	d.Last = slices.DeleteFunc(d.Last, func(x api.Last) bool { return x.Client == l.Client })
	d.Last = append(d.Last, l)
	slices.SortFunc(d.Last, func(x, y api.Last) int { return x.Client - y.Client })
	return d
}
