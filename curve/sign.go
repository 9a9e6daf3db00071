package curve

import "guidepost/number"

// partsOf is a sign's r and s, if they are what they may be.
func (c *curve) partsOf(sign string) (r, s number.Nat, right bool) {
	if len(sign) != 2*width {
		return number.Nat{}, number.Nat{}, false
	}
	r, s = numberOf(sign[:width]), numberOf(sign[width:])
	return r, s, c.counts(r) && c.counts(s)
}

// counts is whether a number is from 1 to n - 1.
func (c *curve) counts(a number.Nat) bool {
	return a.Bits() > 0 && c.n.below(a)
}

// fits is whether r and s are a sign, by the key, of a text whose digest is e.
func (c *curve) fits(key point, e, r, s number.Nat) bool {
	w := c.n.inverse(s)
	base := point{known(baseX), known(baseY), number.Small(1)}
	met := c.sum(c.taken(c.n.times(e, w), base), c.taken(c.n.times(r, w), key))
	return !met.nowhere() && c.n.rest(c.plain(met).x) == r
}
