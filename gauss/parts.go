package gauss

import "tailrace/api"

// within tells whether a number may be a point's part.
func within(n int) bool { return -api.MaxPart <= n && n <= api.MaxPart }

// checkBoth tells why one of two points may not be.
func checkBoth(a, b api.Point) api.Errno {
	if e := Check(a); e != api.OK {
		return e
	}
	return Check(b)
}

// fit is what was worked out, if it may be a point.
func fit(p api.Point) (api.Point, api.Errno) {
	if Check(p) != api.OK {
		return api.Point{}, api.ErrLong
	}
	return p, api.OK
}

// number is a point as the language has it: of parts up to MaxPart all sums of products are far below 2^53, so that floats hold them exactly.
func number(p api.Point) complex128 { return complex(float64(p.Re), float64(p.Im)) }

// point is the point of a number of whole parts.
func point(c complex128) api.Point { return api.Point{Re: int(real(c)), Im: int(imag(c))} }

// times is a product, whether it may be a point or not.
func times(a, b api.Point) api.Point { return point(number(a) * number(b)) }

// quarter is a point times i.
func quarter(p api.Point) api.Point { return times(p, api.Point{Im: 1}) }

// divide is the quotient and the rest; b is not nought. Both may be points: a unit only turns a, and by any other b (of norm 2 or more) the parts of a become no greater than MaxPart; the rest is shorter than b.
func divide(a, b api.Point) (q, r api.Point) {
	c, n := times(a, Mirror(b)), Norm(b)
	q = api.Point{Re: nearest(c.Re, n), Im: nearest(c.Im, n)}
	r = point(number(a) - number(q)*number(b))
	return q, r
}

// nearest is x by n, n above 0, to the nearest whole number; halves go up, below 0 too.
func nearest(x, n int) int {
	x, n = 2*x+n, 2*n
	q := x / n
	if x%n < 0 {
		q--
	}
	return q
}

// corner is a point, turned into the first corner.
func corner(p api.Point) api.Point {
	for p != (api.Point{}) && (p.Re <= 0 || p.Im < 0) {
		p = quarter(p)
	}
	return p
}
