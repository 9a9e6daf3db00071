package curve

import (
	"guidepost/api"
	"guidepost/number"
)

// modulus is a prime that all is reckoned modulo. It has at most 256 bits, so that nothing here grows too long.
type modulus struct {
	prime number.Nat
}

// reckoning is what a modulus does, its methods kept as values: so the same words tell what is reckoned modulo p and modulo n.
type reckoning struct {
	below              func(a number.Nat) bool
	rest, inverse      func(a number.Nat) number.Nat
	plus, minus, times func(a, b number.Nat) number.Nat
}

// reckoningOf is what is done modulo a prime.
func reckoningOf(prime number.Nat) reckoning {
	m := modulus{prime}
	return reckoning{
		below:   m.below,
		rest:    m.rest,
		inverse: m.inverse,
		plus:    m.plus,
		minus:   m.minus,
		times:   m.times,
	}
}

// below is whether a number is one of those that stand for all.
func (m *modulus) below(a number.Nat) bool {
	return a.Cmp(m.prime) < 0
}

// rest is the number below the modulus that stands for a.
func (m *modulus) rest(a number.Nat) number.Nat {
	_, left, _ := a.Div(m.prime)
	return left
}

// plus is the sum of two numbers below the modulus; to take it away at most once is quicker than to divide.
func (m *modulus) plus(a, b number.Nat) number.Nat {
	sum, _ := a.Add(b)
	if m.below(sum) {
		return sum
	}
	sum, _ = sum.Sub(m.prime)
	return sum
}

// minus is the difference of two numbers below the modulus.
func (m *modulus) minus(a, b number.Nat) number.Nat {
	difference, e := a.Sub(b)
	if e == api.OK {
		return difference
	}
	difference, _ = b.Sub(a)
	difference, _ = m.prime.Sub(difference)
	return difference
}

// times is the product.
func (m *modulus) times(a, b number.Nat) number.Nat {
	product, _ := a.Mul(b)
	return m.rest(product)
}

// inverse is the number whose product with a, which is not 0, is 1.
func (m *modulus) inverse(a number.Nat) number.Nat {
	other, _ := a.Inv(m.prime)
	return other
}
