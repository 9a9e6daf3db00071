package number

import "guidepost/api"

// modulusBits is how many bits a modulus may have: the product of two numbers that are less than it is then a Nat.
const modulusBits = api.MaxBits / 2

// faultOf is what is wrong with a modulus.
func faultOf(m Nat) api.Errno {
	if m.many == 0 {
		return api.ErrArg
	}
	if m.Bits() > modulusBits {
		return api.ErrLong
	}
	return api.OK
}

// modulo is what is left of a, divided by m.
func modulo(a, m Nat) Nat {
	_, left := divided(a, m)
	return left
}

// times is the product of two numbers that are less than m, modulo m.
func times(a, b, m Nat) Nat {
	product, _ := a.Mul(b)
	return modulo(product, m)
}

// power is a to the power of e, modulo m: e's bits are gone over, the greatest first; each doubles the exponent so far.
func power(a, e, m Nat) Nat {
	a = modulo(a, m)
	p := modulo(Small(1), m)
	for i := range e.Bits() {
		p = times(p, p, m)
		if at := e.Bits() - 1 - i; e.digits[at/32]>>(at%32)&1 == 1 {
			p = times(p, a, m)
		}
	}
	return p
}

// inverse is the number from 0 to m - 1 whose product with a is 1 modulo m. Euclid's steps lead from m and a to their greatest common divisor; each number on the way is a times some factor, modulo m. The factors' signs take turns, so that they are kept without; none of them is greater than m.
func inverse(a, m Nat) (Nat, api.Errno) {
	greater, less := m, modulo(a, m)
	factor, next := Small(0), Small(1)
	below := true
	for less.many > 0 {
		often, left := divided(greater, less)
		more, _ := often.Mul(next)
		more, _ = more.Add(factor)
		greater, less = less, left
		factor, next = next, more
		below = !below
	}
	if greater.Cmp(Small(1)) != 0 {
		return Nat{}, api.ErrNone
	}
	if below {
		factor, _ = m.Sub(factor)
	}
	return modulo(factor, m), api.OK
}
