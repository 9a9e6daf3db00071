package curve

import "guidepost/number"

// sum is the sum of two points. They are brought to one z, so that they can be held against each other.
func (c *curve) sum(a, b point) point {
	if a.nowhere() {
		return b
	}
	if b.nowhere() {
		return a
	}
	a, b = c.scaled(a, b.z), c.scaled(b, a.z)
	switch {
	case a == b:
		return c.twice(a)
	case a == c.opposite(b):
		return point{}
	}
	return c.third(a, b, c.p.minus(b.y, a.y), c.p.minus(b.x, a.x))
}

// twice is the sum of a point and itself. (No point has a y of 0, as n is odd.) NOWHERE comes out as itself.
func (c *curve) twice(a point) point {
	plus, minus, times := c.p.plus, c.p.minus, c.p.times
	square := times(a.z, a.z)
	rise := times(number.Small(3), times(plus(a.x, square), minus(a.x, square)))
	return c.third(a, a, rise, plus(a.y, a.y))
}

// third is the sum of two points of one z, given what their s is: rise / (run * z). With run put into z the s that is left is rise.
func (c *curve) third(a, b point, rise, run number.Nat) point {
	minus, times := c.p.minus, c.p.times
	bx := times(b.x, times(run, run))
	a = c.scaled(a, run)
	x := minus(minus(times(rise, rise), a.x), bx)
	y := minus(times(rise, minus(a.x, x)), a.y)
	return point{x, y, a.z}
}

// opposite is the point with which the sum is NOWHERE.
func (c *curve) opposite(a point) point {
	return point{a.x, c.p.minus(number.Small(0), a.y), a.z}
}

// taken is a point, added k times: the bits of k are gone over, the greatest first; each doubles what there is so far.
func (c *curve) taken(k number.Nat, a point) point {
	var sum point
	bytes := k.Bytes()
	for i := range 8 * len(bytes) {
		sum = c.twice(sum)
		if bytes[i/8]>>(7-i%8)&1 == 1 {
			sum = c.sum(sum, a)
		}
	}
	return sum
}
