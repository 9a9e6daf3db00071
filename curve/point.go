package curve

import (
	"guidepost/digest"
	"guidepost/number"
)

// width is how many bytes a number of the curve has.
const width = 32

// The numbers of P-256, in hex.
const (
	primeP = "ffffffff00000001000000000000000000000000ffffffffffffffffffffffff"
	primeN = "ffffffff00000000ffffffffffffffffbce6faada7179e84f3b9cac2fc632551"
	addedB = "5ac635d8aa3a93e7b3ebbd55769886bc651d06b0cc53b0f63bce3c3e27d2604b"
	baseX  = "6b17d1f2e12c4247f8bce6e563a440f277037d812deb33a0f4a13945d898c296"
	baseY  = "4fe342e2fe1a7f9b8ee7eb4a7c0f9e162bce33576b315ececbb6406837bf51f5"
)

// curve is what points are reckoned with: modulo p what they are made of, modulo n how often they are taken.
type curve struct {
	p, n reckoning
	b    number.Nat
}

// point is the point x / z^2, y / z^3, so that nothing is divided before it is told: to divide takes as long as a hundred products. One point has many forms, but only one with each z: of two points with one z == tells whether they are the same.
type point struct {
	x, y, z number.Nat
}

// p256 is the one curve there is here; each call makes it anew, so that nothing is kept.
func p256() *curve {
	return &curve{
		p: reckoningOf(known(primeP)),
		n: reckoningOf(known(primeN)),
		b: known(addedB),
	}
}

// known is a number that is written here in hex.
func known(hex string) number.Nat {
	s, _ := digest.Unhex(hex)
	return numberOf(s)
}

// numberOf is the number of bytes that are few enough for any.
func numberOf(s string) number.Nat {
	a, _ := number.Of(s)
	return a
}

// nowhere is whether the point is none of the curve's: its z is 0, and with it the others.
func (a point) nowhere() bool {
	return a == point{}
}

// pointOf is the point of bytes, if they are one.
func (c *curve) pointOf(s string) (point, bool) {
	if s == "" {
		return point{}, true
	}
	if len(s) != 2*width {
		return point{}, false
	}
	a := point{numberOf(s[:width]), numberOf(s[width:]), number.Small(1)}
	if !c.p.below(a.x) || !c.p.below(a.y) || !c.on(a.x, a.y) {
		return point{}, false
	}
	return a, true
}

// on is whether y^2 is x^3 - 3x + b.
func (c *curve) on(x, y number.Nat) bool {
	plus, minus, times := c.p.plus, c.p.minus, c.p.times
	cube := times(x, times(x, x))
	return times(y, y) == plus(minus(cube, times(x, number.Small(3))), c.b)
}

// bytesOf is how a point is told.
func (c *curve) bytesOf(a point) string {
	if a.nowhere() {
		return ""
	}
	a = c.plain(a)
	x, _ := a.x.Wide(width)
	y, _ := a.y.Wide(width)
	return x + y
}

// plain is the same point with a z of 1: its x and y are what the document calls so.
func (c *curve) plain(a point) point {
	return c.scaled(a, c.p.inverse(a.z))
}

// scaled is the same point, its z so many times as great.
func (c *curve) scaled(a point, by number.Nat) point {
	times := c.p.times
	square := times(by, by)
	return point{times(a.x, square), times(a.y, times(square, by)), times(a.z, by)}
}
