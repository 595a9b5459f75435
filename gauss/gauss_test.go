package gauss_test

import (
	"math"
	"math/big"
	"testing"

	"tailrace/api"
	"tailrace/gauss"
)

const most = api.MaxPart

// pt is a point.
func pt(re, im int) api.Point { return api.Point{Re: re, Im: im} }

// edges are points of every corner, with the greatest parts among them.
func edges() []api.Point {
	var l []api.Point
	parts := []int{-most, -most + 1, -1024, -7, -2, -1, 0, 1, 2, 3, 1023, 1024, most - 1, most}
	for _, re := range parts {
		for _, im := range parts {
			l = append(l, pt(re, im))
		}
	}
	return l
}

// square is all points with parts of -n to n.
func square(n int) []api.Point {
	var l []api.Point
	for re := -n; re <= n; re++ {
		for im := -n; im <= n; im++ {
			l = append(l, pt(re, im))
		}
	}
	return l
}

// strangers may not be points.
func strangers() []api.Point {
	var l []api.Point
	for _, n := range []int{most + 1, -most - 1, 1 << 31, -1 << 31, 1 << 52, math.MaxInt, math.MinInt} {
		l = append(l, pt(n, 0), pt(0, n), pt(n, n), pt(n, most), pt(-most, n))
	}
	return l
}

// product is a times b by whole numbers.
func product(a, b api.Point) api.Point {
	return pt(a.Re*b.Re-a.Im*b.Im, a.Re*b.Im+a.Im*b.Re)
}

// may tells whether a point may be.
func may(p api.Point) bool {
	return p.Re >= -most && p.Re <= most && p.Im >= -most && p.Im <= most
}

// norm is by whole numbers, of whatever point.
func norm(p api.Point) int { return p.Re*p.Re + p.Im*p.Im }

// divides tells whether p is q times some point; q not nought.
func divides(q, p api.Point) bool {
	c := product(p, pt(q.Re, -q.Im))
	return c.Re%norm(q) == 0 && c.Im%norm(q) == 0
}

// want holds an answer with an error against what it must be.
func want(t *testing.T, name string, got api.Point, e api.Errno, p api.Point, f api.Errno) {
	t.Helper()
	if got != p || e != f {
		t.Errorf("%s = %v, %d; want %v, %d", name, got, e, p, f)
	}
}

// Ga1

func TestCheck(t *testing.T) {
	for _, p := range edges() {
		if e := gauss.Check(p); e != api.OK {
			t.Errorf("Check(%v) = %d", p, e)
		}
	}
	for _, p := range strangers() {
		if e := gauss.Check(p); e != api.ErrArg {
			t.Errorf("Check(%v) = %d", p, e)
		}
	}
}

func TestStrangersAreRefused(t *testing.T) {
	for _, s := range strangers() {
		for _, p := range []api.Point{{}, pt(1, 0), pt(3, -2), pt(most, most), s} {
			refused(t, s, p)
			refused(t, p, s)
		}
		for _, n := range []int{-1, 0, 1, 64, 65} {
			p, e := gauss.Pow(s, n)
			want(t, "Pow", p, e, api.Point{}, api.ErrArg)
		}
	}
}

// refused: all that take two points tell ErrArg of these.
func refused(t *testing.T, a, b api.Point) {
	t.Helper()
	p, e := gauss.Add(a, b)
	want(t, "Add", p, e, api.Point{}, api.ErrArg)
	p, e = gauss.Mul(a, b)
	want(t, "Mul", p, e, api.Point{}, api.ErrArg)
	p, e = gauss.Gcd(a, b)
	want(t, "Gcd", p, e, api.Point{}, api.ErrArg)
	q, r, e := gauss.Div(a, b)
	want(t, "Div's quotient", q, e, api.Point{}, api.ErrArg)
	want(t, "Div's rest", r, e, api.Point{}, api.ErrArg)
}

func TestStrangersAreNought(t *testing.T) {
	for _, p := range strangers() {
		if n := gauss.Norm(p); n != 0 {
			t.Errorf("Norm(%v) = %d", p, n)
		}
		if m := gauss.Mirror(p); m != (api.Point{}) {
			t.Errorf("Mirror(%v) = %v", p, m)
		}
		for n := -5; n <= 5; n++ {
			if m := gauss.Turn(p, n); m != (api.Point{}) {
				t.Errorf("Turn(%v, %d) = %v", p, n, m)
			}
		}
	}
}

func TestNormAndMirror(t *testing.T) {
	for _, p := range edges() {
		if n := gauss.Norm(p); n != norm(p) {
			t.Errorf("Norm(%v) = %d", p, n)
		}
		if m := gauss.Mirror(p); m != pt(p.Re, -p.Im) {
			t.Errorf("Mirror(%v) = %v", p, m)
		}
	}
	if n := gauss.Norm(pt(-most, most)); n != 1<<41 {
		t.Errorf("the greatest norm is %d", n)
	}
}

func TestTurn(t *testing.T) {
	for _, p := range edges() {
		quarters := []api.Point{p, pt(-p.Im, p.Re), pt(-p.Re, -p.Im), pt(p.Im, -p.Re)}
		for n := -9; n <= 9; n++ {
			if q := gauss.Turn(p, n); q != quarters[(n+12)%4] {
				t.Errorf("Turn(%v, %d) = %v", p, n, q)
			}
		}
		for i, n := range []int{math.MinInt, math.MinInt + 1, math.MaxInt - 1, math.MaxInt} {
			if q := gauss.Turn(p, n); q != quarters[i] {
				t.Errorf("Turn(%v, %d) = %v", p, n, q)
			}
		}
	}
}

func TestAdd(t *testing.T) {
	for _, a := range edges() {
		for _, b := range edges() {
			p, e := gauss.Add(a, b)
			if s := pt(a.Re+b.Re, a.Im+b.Im); may(s) {
				want(t, "Add", p, e, s, api.OK)
			} else {
				want(t, "Add", p, e, api.Point{}, api.ErrLong)
			}
		}
	}
}

func TestMul(t *testing.T) {
	p, e := gauss.Mul(pt(1, 2), pt(3, -1))
	want(t, "Mul", p, e, pt(5, 5), api.OK)
	for _, a := range edges() {
		for _, b := range edges() {
			p, e := gauss.Mul(a, b)
			if w := product(a, b); may(w) {
				want(t, "Mul", p, e, w, api.OK)
			} else {
				want(t, "Mul", p, e, api.Point{}, api.ErrLong)
			}
		}
	}
}

func TestPow(t *testing.T) {
	for _, p := range append(edges(), square(6)...) {
		w := pt(1, 0)
		for n := 0; n <= 64; n++ {
			got, e := gauss.Pow(p, n)
			if may(w) {
				want(t, "Pow", got, e, w, api.OK)
				w = product(w, p)
			} else {
				want(t, "Pow", got, e, api.Point{}, api.ErrLong)
			}
		}
	}
}

func TestPowAtItsEdges(t *testing.T) {
	for _, c := range []struct {
		p api.Point
		n int
		w api.Point
		e api.Errno
	}{
		{pt(0, 0), 0, pt(1, 0), api.OK},
		{pt(0, 0), 64, pt(0, 0), api.OK},
		{pt(0, 1), 63, pt(0, -1), api.OK},
		{pt(1, 1), 4, pt(-4, 0), api.OK},
		{pt(1, 1), 41, pt(most, most), api.OK},
		{pt(1, 1), 42, pt(0, 0), api.ErrLong},
		{pt(2, 0), 20, pt(most, 0), api.OK},
		{pt(2, 0), 21, pt(0, 0), api.ErrLong},
		{pt(2, 0), 64, pt(0, 0), api.ErrLong},
		{pt(most, most), 1, pt(most, most), api.OK},
		{pt(1, 0), 65, pt(0, 0), api.ErrArg},
		{pt(2, 0), 65, pt(0, 0), api.ErrArg},
		{pt(1, 0), -1, pt(0, 0), api.ErrArg},
		{pt(1, 0), math.MaxInt, pt(0, 0), api.ErrArg},
		{pt(1, 0), math.MinInt, pt(0, 0), api.ErrArg},
	} {
		w, e := gauss.Pow(c.p, c.n)
		want(t, "Pow", w, e, c.w, c.e)
	}
}

// Ga2

func TestDiv(t *testing.T) {
	for _, c := range []struct{ a, b, q, r api.Point }{
		{pt(7, 0), pt(2, 1), pt(3, -1), pt(0, -1)},
		{pt(0, 0), pt(3, 4), pt(0, 0), pt(0, 0)},
		{pt(1, 0), pt(2, 0), pt(1, 0), pt(-1, 0)},  // half: up
		{pt(-1, 0), pt(2, 0), pt(0, 0), pt(-1, 0)}, // half below nought: up too
		{pt(3, -3), pt(2, 0), pt(2, -1), pt(-1, -1)},
		{pt(1, 0), pt(1, 1), pt(1, 0), pt(0, -1)}, // half a part each: one up to 1, one up to nought
		{pt(5, 5), pt(3, -1), pt(1, 2), pt(0, 0)},
		{pt(1, 1), pt(most, most), pt(0, 0), pt(1, 1)},
		{pt(most, most), pt(1, 0), pt(most, most), pt(0, 0)},
		{pt(most, most), pt(1, 1), pt(most, 0), pt(0, 0)},
		{pt(most, -most), pt(0, -1), pt(most, most), pt(0, 0)},
	} {
		q, r, e := gauss.Div(c.a, c.b)
		want(t, "Div's quotient", q, e, c.q, api.OK)
		want(t, "Div's rest", r, e, c.r, api.OK)
	}
}

func TestDivIsNearest(t *testing.T) {
	for _, l := range [][]api.Point{edges(), square(7)} {
		for _, a := range l {
			for _, b := range l {
				q, r, e := gauss.Div(a, b)
				if b == (api.Point{}) {
					want(t, "Div by nought", q, e, api.Point{}, api.ErrArg)
					want(t, "Div by nought", r, e, api.Point{}, api.ErrArg)
					continue
				}
				c, n := product(a, pt(b.Re, -b.Im)), norm(b)
				if e != api.OK || !near(c.Re, n, q.Re) || !near(c.Im, n, q.Im) {
					t.Errorf("Div(%v, %v) = %v, %v, %d", a, b, q, r, e)
				}
				if p := product(q, b); r != pt(a.Re-p.Re, a.Im-p.Im) || !may(q) || !may(r) {
					t.Errorf("Div(%v, %v): quotient %v, rest %v", a, b, q, r)
				}
			}
		}
	}
}

// near tells whether q is x by n to the nearest whole number, of two as near the greater one.
func near(x, n, q int) bool { return -n <= 2*(x-q*n) && 2*(x-q*n) < n }

func TestGcd(t *testing.T) {
	for _, c := range []struct{ a, b, g api.Point }{
		{pt(0, 0), pt(0, 0), pt(0, 0)},
		{pt(-3, 0), pt(0, 0), pt(3, 0)},
		{pt(0, 0), pt(0, -3), pt(3, 0)},
		{pt(0, 5), pt(0, 0), pt(5, 0)},
		{pt(-2, 1), pt(0, 0), pt(1, 2)},
		{pt(-1, -2), pt(0, 0), pt(1, 2)},
		{pt(1, -2), pt(0, 0), pt(2, 1)},
		{pt(5, 0), pt(3, 1), pt(1, 2)},
		{pt(12, 0), pt(18, 0), pt(6, 0)},
		{pt(most, most), pt(-most, 0), pt(most, 0)},
		{pt(most, 0), pt(most-1, 0), pt(1, 0)},
		{pt(832040, 0), pt(514229, 0), pt(1, 0)},
	} {
		g, e := gauss.Gcd(c.a, c.b)
		want(t, "Gcd", g, e, c.g, api.OK)
	}
}

func TestGcdIsInTheFirstCorner(t *testing.T) {
	for _, l := range [][]api.Point{edges(), square(7)} {
		for _, a := range l {
			for _, b := range l {
				g, e := gauss.Gcd(a, b)
				nought := a == api.Point{} && b == api.Point{}
				if e != api.OK || nought != (g == api.Point{}) || !nought && (g.Re <= 0 || g.Im < 0) {
					t.Errorf("Gcd(%v, %v) = %v, %d", a, b, g, e)
				}
			}
		}
	}
}

func TestGcdOfWholeNumbers(t *testing.T) {
	for a := range 60 {
		for b := range 60 {
			w := new(big.Int).GCD(nil, nil, big.NewInt(int64(a)), big.NewInt(int64(b)))
			g, e := gauss.Gcd(pt(-a, 0), pt(0, b))
			want(t, "Gcd", g, e, pt(int(w.Int64()), 0), api.OK)
		}
	}
}

// Ga3

func TestNormOfAProduct(t *testing.T) {
	for _, l := range [][]api.Point{edges(), square(7)} {
		for _, a := range l {
			for _, b := range l {
				p, e := gauss.Mul(a, b)
				if e == api.OK && gauss.Norm(p) != gauss.Norm(a)*gauss.Norm(b) {
					t.Errorf("Mul(%v, %v) = %v", a, b, p)
				}
			}
		}
	}
}

func TestNormOfTheRest(t *testing.T) {
	for _, l := range [][]api.Point{edges(), square(7)} {
		for _, a := range l {
			for _, b := range l {
				if _, r, e := gauss.Div(a, b); e == api.OK && 2*gauss.Norm(r) > gauss.Norm(b) {
					t.Errorf("Div(%v, %v): rest %v", a, b, r)
				}
			}
		}
	}
}

func TestGcdDividesBoth(t *testing.T) {
	for _, l := range [][]api.Point{edges(), square(7)} {
		for _, a := range l {
			for _, b := range l {
				g, e := gauss.Gcd(a, b)
				if e != api.OK || g != (api.Point{}) && (!divides(g, a) || !divides(g, b)) {
					t.Errorf("Gcd(%v, %v) = %v, %d", a, b, g, e)
				}
			}
		}
	}
}

func TestWhatDividesBothDividesGcd(t *testing.T) {
	small := square(5)
	for _, a := range small {
		for _, b := range small {
			g, _ := gauss.Gcd(a, b)
			for _, d := range small {
				if d != (api.Point{}) && divides(d, a) && divides(d, b) && !divides(d, g) {
					t.Errorf("Gcd(%v, %v) = %v: not divided by %v", a, b, g, d)
				}
			}
		}
	}
}

func TestGcdOfMultiples(t *testing.T) {
	for _, d := range []api.Point{pt(1, 1), pt(2, 1), pt(3, 0), pt(-7, 4), pt(1000, 999), pt(0, -1<<18)} {
		for _, p := range square(3) {
			for _, q := range square(3) {
				a, b := product(p, d), product(q, d)
				if !may(a) || !may(b) {
					continue
				}
				g, _ := gauss.Gcd(p, q)
				h, e := gauss.Gcd(a, b)
				if w := product(g, d); e != api.OK || norm(h) != norm(w) || norm(w) > 0 && !divides(w, h) {
					t.Errorf("Gcd(%v, %v) = %v, %d; want %v, turned", a, b, h, e, w)
				}
			}
		}
	}
}
