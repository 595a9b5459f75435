package shop_test

import (
	"fmt"
	"testing"

	"tailrace/api"
	"tailrace/shop"
)

// So1: batches

func TestBatch(t *testing.T) {
	docs := []api.Named{named("x", a(1))}
	for _, c := range []struct {
		what  string
		l     []api.Op
		right came
	}{
		{"one", []api.Op{put("y", a(2))}, came{[]api.Named{named("x", a(1)), named("y", a(2))}, api.Answer{N: 8}, []api.Change{stands(8, "y", a(2))}}},
		{"one key again and again", []api.Op{put("x", a(2)), put("x", a(2)), put("x", a(3)), put("x", a(4))},
			came{[]api.Named{named("x", a(4))}, api.Answer{N: 11}, []api.Change{stands(8, "x", a(2)), stands(9, "x", a(2)), stands(10, "x", a(3)), stands(11, "x", a(4))}}},
		{"what stands by then is gone", []api.Op{put("w", a(2)), del("w"), del("x")},
			came{nil, api.Answer{N: 10}, []api.Change{stands(8, "w", a(2)), gone(9, "w"), gone(10, "x")}}},
		{"what is gone by then is not there", []api.Op{del("x"), casNone("x", a(5))},
			came{[]api.Named{named("x", a(5))}, api.Answer{N: 9}, []api.Change{gone(8, "x"), stands(9, "x", a(5))}}},
		{"what stands by then is compared", []api.Op{cas("x", a(1), a(2)), cas("x", a(2), a(3)), cas("x", a(3), nil)},
			came{[]api.Named{named("x", nil)}, api.Answer{N: 10}, []api.Change{stands(8, "x", a(2)), stands(9, "x", a(3)), stands(10, "x", nil)}}},
	} {
		want(t, c.what, docs, batch(c.l...), 7, c.right)
	}
}

func TestBatchRefuses(t *testing.T) {
	good := []api.Op{put("a", a(1)), put("b", a(2)), casNone("c", nil)}
	for _, docs := range [][]api.Named{nil, row(3), row(api.MaxDocs)} {
		wantRefused(t, "none", docs, batch(), api.ErrArg)
		wantRefused(t, "five", docs, batch(good[0], good[0], good[1], good[1], good[2]), api.ErrArg)
		wantRefused(t, "a thousand", docs, batch(make([]api.Op, 1000)...), api.ErrArg)
		for _, kind := range append(noKinds(), api.OpGet, api.OpScan, api.OpBatch) {
			other := api.Op{Kind: kind, Key: "00000", Most: 1, List: good}
			for i := range 4 {
				// Wherever it stands, it comes ahead of what the others are refused for.
				l := []api.Op{del("nowhere"), cas("nowhere", nil, nil), put("z", heaviest())}
				l = append(l[:min(i, 3):min(i, 3)], append([]api.Op{other}, l[min(i, 3):]...)...)
				wantRefused(t, fmt.Sprint("kind ", kind), docs, batch(l...), api.ErrArg)
			}
		}
	}
}

func TestBatchIsRefusedForTheFirst(t *testing.T) {
	docs := []api.Named{named("x", a(1)), named("z", a(3))}
	refused := map[api.Errno][]api.Op{
		api.ErrArg:  {put("", a(1)), put("x", odd()[0]), del(""), del(longest() + "x"), casNone("", a(1)), cas("x", odd()[0], a(1))},
		api.ErrLong: {put("x", heaviest()), casNone("y", heaviest()), cas("x", a(1), heaviest())},
		api.ErrNone: {del("nowhere")},
		api.ErrCas:  {casNone("x", nil), cas("x", a(2), nil), cas("nowhere", nil, nil)},
	}
	good := []api.Op{put("v", a(1)), del("z"), casNone("w", nil)}
	for e, l := range refused {
		for _, first := range l {
			for i := range 4 {
				wantRefused(t, "one of the others", docs, batch(append(good[:i:i], first)...), e)
				if i < 3 {
					wantRefused(t, "one ahead of another one", docs, batch(append(good[:i:i], first, del("gone"))...), e)
				}
			}
			for other, l := range refused {
				for _, second := range l {
					wantRefused(t, fmt.Sprint(e, " ahead of ", other), docs, batch(first, second), e)
				}
			}
		}
	}
}

func TestBatchThatComparesWhatItHasTurned(t *testing.T) {
	docs := []api.Named{named("x", a(1))}
	// By then something else is there; the batch tells why it is refused, and that alone.
	wantRefused(t, "put, and cas of what was there", docs, batch(put("x", a(2)), cas("x", a(1), a(3))), api.ErrCas)
	wantRefused(t, "delete, and cas of what was there", docs, batch(del("x"), cas("x", a(1), a(3))), api.ErrCas)
	wantRefused(t, "put, and cas of nothing", docs, batch(put("y", a(2)), casNone("y", a(3))), api.ErrCas)
	wantRefused(t, "delete twice", docs, batch(del("x"), del("x")), api.ErrNone)
}

func TestBatchHasNoMoreRoom(t *testing.T) {
	full := row(api.MaxDocs)
	wantRefused(t, "put ahead of delete", full, batch(put("x", nil), del("00000")), api.ErrFull)
	wantRefused(t, "two for one", full, batch(del("00000"), put("x", nil), put("y", nil)), api.ErrFull)
	wantRefused(t, "two into the last room", full[1:], batch(put("x", nil), casNone("y", nil)), api.ErrFull)
	want(t, "delete ahead of put", full, batch(del("00000"), put("x", nil)), 7, came{
		append(full[1:24:24], named("x", nil)), api.Answer{N: 9}, []api.Change{gone(8, "00000"), stands(9, "x", nil)},
	})
	want(t, "put of one of all", full, batch(put("00000", a(5)), put("00000", a(6))), 7, came{
		append([]api.Named{named("00000", a(6))}, full[1:]...), api.Answer{N: 9}, []api.Change{stands(8, "00000", a(5)), stands(9, "00000", a(6))},
	})
}

// A batch within itself is a list like any other.
func TestBatchWithinItself(t *testing.T) {
	l := make([]api.Op, 1)
	l[0] = batch(l...)
	d, got, changes, e := shop.Apply(row(2), l[0], 0)
	if e != api.OK || !sameDocs(d, row(2)) || !sameAnswer(got, api.Answer{Code: api.ErrArg}) || len(changes) != 0 {
		t.Errorf("Apply: %v, %+v, %v, error %d", d, got, changes, e)
	}
	l[0] = put("x", a(1))
	l[0].List = l
	d, got, changes, e = shop.Apply(nil, api.Op{Kind: api.OpBatch, List: l}, 0)
	if e != api.OK || !sameDocs(d, []api.Named{named("x", a(1))}) || !sameAnswer(got, api.Answer{N: 1}) || len(changes) != 1 {
		t.Errorf("Apply: %v, %+v, %v, error %d", d, got, changes, e)
	}
}
