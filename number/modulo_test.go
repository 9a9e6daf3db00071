package number_test

import (
	"math"
	"math/big"
	"math/rand"
	"testing"

	"guidepost/api"
	"guidepost/number"
)

// P5.3: powers of small numbers; of the exponent 0 there is 1, and modulo 1 nothing but 0.
func TestPowSmall(t *testing.T) {
	for _, x := range []struct{ a, e, m, want uint64 }{
		{3, 200, 13, 9},
		{3, 0, 13, 1},
		{0, 0, 7, 1},
		{0, 1, 7, 0},
		{0, 5, 7, 0},
		{1, math.MaxUint64, 7, 1},
		{3, 200, 1, 0},
		{3, 0, 1, 0},
		{0, 0, 1, 0},
		{3, 1, 13, 3},
		{13, 1, 13, 0},
		{14, 3, 13, 1},
		{100, 1, 13, 9},
		{2, 5, 100, 32},
		{2, 64, 1 << 63, 0},
		{2, 62, 1 << 63, 1 << 62},
		{10, 18, 1000000007, 49},
		{6, 3, 9, 0},
	} {
		got, e := number.Small(x.a).Pow(number.Small(x.e), number.Small(x.m))
		if e != api.OK || got != number.Small(x.want) {
			t.Errorf("%d to the power of %d modulo %d: %x, %v, not %d", x.a, x.e, x.m, got.Bytes(), e, x.want)
		}
	}
}

// P5.3: a modulus of 0, and of more than 2048 bits, is refused by both calls, ahead of all else.
func TestModulusIsWrong(t *testing.T) {
	for _, x := range []struct {
		m *big.Int
		e api.Errno
	}{
		{big.NewInt(0), api.ErrArg},
		{two(2048, 0), api.ErrLong},
		{two(2048, 1), api.ErrLong},
		{two(2079, 1), api.ErrLong},
		{two(4096, -1), api.ErrLong},
	} {
		for _, a := range []uint64{0, 1, 2, 5} {
			for _, exponent := range []uint64{0, 1, 2, 5} {
				got, e := number.Small(a).Pow(number.Small(exponent), natOf(t, x.m))
				sameError(t, "Pow", got, e, x.e)
			}
			got, e := number.Small(a).Inv(natOf(t, x.m))
			sameError(t, "Inv", got, e, x.e)
		}
	}
}

// P5.3: a modulus of just 2048 bits counts, with numbers and exponents of 4096.
func TestModulusAtTheLimit(t *testing.T) {
	for _, m := range []*big.Int{two(2048, -1), two(2047, 0), two(2047, 1)} {
		for _, a := range []*big.Int{two(4096, -1), two(4095, 5), two(2048, 3), big.NewInt(3)} {
			got, e := natOf(t, a).Pow(natOf(t, two(4096, -1)), natOf(t, m))
			wanted(t, "the power", got, e, new(big.Int).Exp(a, two(4096, -1), m))
			invertAsTheLibrary(t, a, m)
		}
	}
}

// P5.3: powers as the library reckons them, of drawn numbers and of edges.
func TestPowAsTheLibrary(t *testing.T) {
	r := rand.New(rand.NewSource(53))
	for range 1500 {
		a, exponent, m := drawn(r, 12), drawn(r, 4), drawn(r, 8)
		if m.Sign() == 0 {
			m.SetInt64(1)
		}
		got, e := natOf(t, a).Pow(natOf(t, exponent), natOf(t, m))
		wanted(t, "the power", got, e, new(big.Int).Exp(a, exponent, m))
	}
	for range 5 {
		a, exponent, m := drawn(r, 128), drawn(r, 64), new(big.Int).Add(drawn(r, 63), two(2040, 0))
		got, e := natOf(t, a).Pow(natOf(t, exponent), natOf(t, m))
		wanted(t, "the power", got, e, new(big.Int).Exp(a, exponent, m))
	}
}

// invertAsTheLibrary wants a number whose product is 1, if the greatest common divisor is 1, and none otherwise.
func invertAsTheLibrary(t *testing.T, a, m *big.Int) {
	t.Helper()
	got, e := natOf(t, a).Inv(natOf(t, m))
	one := big.NewInt(1)
	if new(big.Int).GCD(nil, nil, a, m).Cmp(one) != 0 {
		sameError(t, "no inverse", got, e, api.ErrNone)
		return
	}
	product := new(big.Int).Mul(bigOf(got), a)
	if e != api.OK || product.Mod(product, m).Cmp(one.Mod(one, m)) != 0 || bigOf(got).Cmp(m) >= 0 {
		t.Errorf("%x modulo %x: %x, %v", a, m, got.Bytes(), e)
	}
}

// P5.3: of each small number modulo each small one, the one that going through all of them finds.
func TestInvSmall(t *testing.T) {
	for m := uint64(1); m < 40; m++ {
		for a := uint64(0); a < 90; a++ {
			want, found := uint64(0), false
			for x := uint64(0); x < m && !found; x++ {
				want, found = x, a*x%m == 1%m
			}
			got, e := number.Small(a).Inv(number.Small(m))
			if !found {
				sameError(t, "no inverse", got, e, api.ErrNone)
			} else if e != api.OK || got != number.Small(want) {
				t.Errorf("%d modulo %d: %x, %v, not %d", a, m, got.Bytes(), e, want)
			}
		}
	}
}

// P5.3: the examples, 0 and 1, and modulo 1, where 0 does for every number.
func TestInvEdges(t *testing.T) {
	for _, x := range []struct {
		a, m, want uint64
		e          api.Errno
	}{
		{3, 7, 5, api.OK},
		{2, 4, 0, api.ErrNone},
		{0, 1, 0, api.OK},
		{1, 1, 0, api.OK},
		{2, 1, 0, api.OK},
		{math.MaxUint64, 1, 0, api.OK},
		{0, 2, 0, api.ErrNone},
		{0, 7, 0, api.ErrNone},
		{7, 7, 0, api.ErrNone},
		{14, 7, 0, api.ErrNone},
		{1, 7, 1, api.OK},
		{8, 7, 1, api.OK},
		{6, 7, 6, api.OK},
		{1, 2, 1, api.OK},
		{1, 0, 0, api.ErrArg},
	} {
		got, e := number.Small(x.a).Inv(number.Small(x.m))
		if e != x.e || got != number.Small(x.want) {
			t.Errorf("%d modulo %d: %x, %v, not %d, %v", x.a, x.m, got.Bytes(), e, x.want, x.e)
		}
	}
}

// P5.3: of drawn numbers, and of such that share a factor with the modulus.
func TestInvAsTheLibrary(t *testing.T) {
	r := rand.New(rand.NewSource(54))
	for range 1500 {
		a, m, factor := drawn(r, 20), drawn(r, 12), drawn(r, 3)
		if m.Sign() == 0 {
			continue
		}
		invertAsTheLibrary(t, a, m)
		if factor.Sign() > 0 {
			invertAsTheLibrary(t, new(big.Int).Mul(a, factor), new(big.Int).Mul(m, factor))
		}
	}
	for range 10 {
		invertAsTheLibrary(t, drawn(r, 128), new(big.Int).Add(drawn(r, 63), two(2040, 0)))
	}
}
