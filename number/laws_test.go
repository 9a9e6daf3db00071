package number_test

import (
	"math/big"
	"math/rand"
	"testing"

	"guidepost/api"
	"guidepost/number"
)

// must is the answer of a call that may not fail.
func must(t *testing.T) func(number.Nat, api.Errno) number.Nat {
	return func(a number.Nat, e api.Errno) number.Nat {
		t.Helper()
		if e != api.OK {
			t.Fatal(e)
		}
		return a
	}
}

// P5.4: sums and products may be reckoned in any order, and a product of a sum is the sum of the products.
func TestAnyOrder(t *testing.T) {
	r, ok := rand.New(rand.NewSource(55)), must(t)
	for range 300 {
		a, b, c := natOf(t, drawn(r, 42)), natOf(t, drawn(r, 42)), natOf(t, drawn(r, 42))
		if ok(a.Add(b)) != ok(b.Add(a)) || ok(ok(a.Add(b)).Add(c)) != ok(a.Add(ok(b.Add(c)))) {
			t.Errorf("sums of %x, %x, %x", a.Bytes(), b.Bytes(), c.Bytes())
		}
		if ok(a.Mul(b)) != ok(b.Mul(a)) || ok(ok(a.Mul(b)).Mul(c)) != ok(a.Mul(ok(b.Mul(c)))) {
			t.Errorf("products of %x, %x, %x", a.Bytes(), b.Bytes(), c.Bytes())
		}
		if ok(a.Mul(ok(b.Add(c)))) != ok(ok(a.Mul(b)).Add(ok(a.Mul(c)))) {
			t.Errorf("%x times the sum of %x, %x", a.Bytes(), b.Bytes(), c.Bytes())
		}
		if ok(ok(a.Add(b)).Sub(b)) != a {
			t.Errorf("%x and %x, less it again", a.Bytes(), b.Bytes())
		}
	}
}

// P5.4: the quotient times b and what is left is the number, what is left is less than b.
func TestDivAndBack(t *testing.T) {
	r, ok := rand.New(rand.NewSource(56)), must(t)
	for range 3000 {
		a, b := natOf(t, drawn(r, 128)), natOf(t, drawn(r, 1+r.Intn(128)))
		if b.Bits() == 0 {
			continue
		}
		quotient, left, e := a.Div(b)
		if e != api.OK || left.Cmp(b) >= 0 || ok(ok(quotient.Mul(b)).Add(left)) != a {
			t.Errorf("%x by %x: %x, %x, %v", a.Bytes(), b.Bytes(), quotient.Bytes(), left.Bytes(), e)
		}
	}
}

// P5.4: the power of a sum of exponents is the product of the powers.
func TestPowOfSum(t *testing.T) {
	r, ok := rand.New(rand.NewSource(57)), must(t)
	for range 200 {
		a, x, y := natOf(t, drawn(r, 10)), natOf(t, drawn(r, 4)), natOf(t, drawn(r, 4))
		m := natOf(t, new(big.Int).Add(drawn(r, 8), big.NewInt(1)))
		product := ok(ok(a.Pow(x, m)).Mul(ok(a.Pow(y, m))))
		_, left, e := product.Div(m)
		if e != api.OK || left != ok(a.Pow(ok(x.Add(y)), m)) {
			t.Errorf("%x to the power of %x and %x modulo %x", a.Bytes(), x.Bytes(), y.Bytes(), m.Bytes())
		}
	}
}
