package number_test

import (
	"math"
	"math/big"
	"math/rand"
	"testing"

	"guidepost/api"
	"guidepost/number"
)

// pairs are each edge with each edge, and drawn pairs.
func pairs() [][2]*big.Int {
	var list [][2]*big.Int
	for _, x := range edges() {
		for _, y := range edges() {
			list = append(list, [2]*big.Int{x, y})
		}
	}
	r := rand.New(rand.NewSource(52))
	for range 3000 {
		list = append(list, [2]*big.Int{drawn(r, 128), drawn(r, 1+r.Intn(128))})
	}
	return list
}

// wanted holds an answer against the library's, which may be too long to be one.
func wanted(t *testing.T, what string, got number.Nat, e api.Errno, want *big.Int) {
	t.Helper()
	if want.BitLen() > api.MaxBits {
		sameError(t, what, got, e, api.ErrLong)
		return
	}
	if e != api.OK || bigOf(got).Cmp(want) != 0 {
		t.Errorf("%s: %x, %v, not %x", what, got.Bytes(), e, want)
	}
}

// P5.2: less, the same, greater.
func TestCmp(t *testing.T) {
	for _, x := range []struct {
		a, b string
		want int
	}{
		{"", "", 0},
		{"", "\x01", -1},
		{"\x01", "", 1},
		{"\x02", "\x03", -1},
		{"\x00\x00\x03", "\x03", 0},
		{"\x80\x00\x00\x00", "\x7f\xff\xff\xff", 1},
		{"\xff\xff\xff\xff", "\x01\x00\x00\x00\x00", -1},
		{"\x01\x00\x00\x00\x02", "\x02\x00\x00\x00\x01", -1},
		{"\x02\x00\x00\x00\x01", "\x01\x00\x00\x00\x02", 1},
		{"\x02\x00\x00\x00\x01", "\x02\x00\x00\x00\x02", -1},
	} {
		if got := of(t, x.a).Cmp(of(t, x.b)); got != x.want {
			t.Errorf("%x, %x: %d, not %d", x.a, x.b, got, x.want)
		}
	}
	for _, x := range pairs() {
		if got, want := natOf(t, x[0]).Cmp(natOf(t, x[1])), x[0].Cmp(x[1]); got != want {
			t.Errorf("%x, %x: %d, not %d", x[0], x[1], got, want)
		}
	}
}

// P5.2: sums, products and differences of small numbers.
func TestReckonSmall(t *testing.T) {
	for _, x := range []struct{ a, b, sum, product uint64 }{
		{0, 0, 0, 0},
		{0, 1, 1, 0},
		{1, 1, 2, 1},
		{2, 3, 5, 6},
		{math.MaxUint32, 1, 1 << 32, math.MaxUint32},
		{math.MaxUint32, math.MaxUint32, 0x1fffffffe, 0xfffffffe00000001},
	} {
		a, b := number.Small(x.a), number.Small(x.b)
		sum, e := a.Add(b)
		wanted(t, "the sum", sum, e, new(big.Int).SetUint64(x.sum))
		product, e := a.Mul(b)
		wanted(t, "the product", product, e, new(big.Int).SetUint64(x.product))
		back, e := sum.Sub(b)
		wanted(t, "the difference", back, e, new(big.Int).SetUint64(x.a))
	}
}

// P5.2: sums and products of just 4096 bits, and of one more.
func TestAddAndMulAtTheLimit(t *testing.T) {
	greatest := natOf(t, two(4096, -1))
	half := natOf(t, two(4095, 0))
	root := natOf(t, two(2048, 0))
	for _, x := range []struct {
		a, b number.Nat
		call func(a, b number.Nat) (number.Nat, api.Errno)
		e    api.Errno
	}{
		{greatest, number.Small(0), number.Nat.Add, api.OK},
		{natOf(t, two(4096, -2)), number.Small(1), number.Nat.Add, api.OK},
		{greatest, number.Small(1), number.Nat.Add, api.ErrLong},
		{greatest, greatest, number.Nat.Add, api.ErrLong},
		{half, half, number.Nat.Add, api.ErrLong},
		{half, natOf(t, two(4095, -1)), number.Nat.Add, api.OK},
		{greatest, number.Small(1), number.Nat.Mul, api.OK},
		{greatest, number.Small(0), number.Nat.Mul, api.OK},
		{greatest, number.Small(2), number.Nat.Mul, api.ErrLong},
		{greatest, greatest, number.Nat.Mul, api.ErrLong},
		{half, number.Small(2), number.Nat.Mul, api.ErrLong},
		{root, root, number.Nat.Mul, api.ErrLong},
		{root, natOf(t, two(2047, 0)), number.Nat.Mul, api.OK},
		{natOf(t, two(2048, 1)), natOf(t, two(2048, -1)), number.Nat.Mul, api.OK},
	} {
		for _, order := range [][2]number.Nat{{x.a, x.b}, {x.b, x.a}} {
			got, e := x.call(order[0], order[1])
			if e != x.e || e != api.OK && got != (number.Nat{}) {
				t.Errorf("%d and %d bits: %d bits, %v, not %v", x.a.Bits(), x.b.Bits(), got.Bits(), e, x.e)
			}
		}
	}
}

// P5.2: as the library reckons.
func TestReckonAsTheLibrary(t *testing.T) {
	for _, x := range pairs() {
		a, b := natOf(t, x[0]), natOf(t, x[1])
		sum, e := a.Add(b)
		wanted(t, "the sum", sum, e, new(big.Int).Add(x[0], x[1]))
		product, e := a.Mul(b)
		wanted(t, "the product", product, e, new(big.Int).Mul(x[0], x[1]))
		difference, e := a.Sub(b)
		if x[0].Cmp(x[1]) < 0 {
			sameError(t, "the difference", difference, e, api.ErrArg)
		} else {
			wanted(t, "the difference", difference, e, new(big.Int).Sub(x[0], x[1]))
		}
		divideAsTheLibrary(t, x[0], x[1])
	}
}

// divideAsTheLibrary wants the library's quotient and what it leaves, or that nothing is divided by 0.
func divideAsTheLibrary(t *testing.T, x, y *big.Int) {
	t.Helper()
	quotient, left, e := natOf(t, x).Div(natOf(t, y))
	if y.Sign() == 0 {
		sameError(t, "the quotient", quotient, e, api.ErrArg)
		sameError(t, "what is left", left, e, api.ErrArg)
		return
	}
	wantQuotient, wantLeft := new(big.Int).QuoRem(x, y, new(big.Int))
	wanted(t, "the quotient", quotient, e, wantQuotient)
	wanted(t, "what is left", left, e, wantLeft)
}

// P5.2: what is subtracted is the greater one.
func TestSubTooMuch(t *testing.T) {
	for _, x := range [][2]*big.Int{
		{big.NewInt(0), big.NewInt(1)},
		{big.NewInt(7), big.NewInt(8)},
		{two(32, -1), two(32, 0)},
		{two(64, 1), two(64, 2)},
		{big.NewInt(0), two(4096, -1)},
		{two(4096, -2), two(4096, -1)},
	} {
		got, e := natOf(t, x[0]).Sub(natOf(t, x[1]))
		sameError(t, "what is below 0", got, e, api.ErrArg)
	}
	for _, x := range edges() {
		if got, e := natOf(t, x).Sub(natOf(t, x)); e != api.OK || got != (number.Nat{}) {
			t.Errorf("%x less itself: %x, %v", x, got.Bytes(), e)
		}
	}
}

// P5.2: quotients, rounded down, and what is left.
func TestDivSmall(t *testing.T) {
	for _, x := range []struct{ a, b, quotient, left uint64 }{
		{7, 2, 3, 1},
		{6, 2, 3, 0},
		{0, 5, 0, 0},
		{0, 1, 0, 0},
		{1, 1, 1, 0},
		{4, 5, 0, 4},
		{5, 5, 1, 0},
		{math.MaxUint64, 1, math.MaxUint64, 0},
		{math.MaxUint64, math.MaxUint32, 1<<32 + 1, 0},
		{1<<32 - 1, 1 << 32, 0, 1<<32 - 1},
		{1 << 63, 1<<32 + 1, 1<<31 - 1, 1<<63 - (1<<32+1)*(1<<31-1)},
	} {
		quotient, left, e := number.Small(x.a).Div(number.Small(x.b))
		wanted(t, "the quotient", quotient, e, new(big.Int).SetUint64(x.quotient))
		wanted(t, "what is left", left, e, new(big.Int).SetUint64(x.left))
	}
}

// P5.2: nothing is divided by 0, not even 0.
func TestDivByNothing(t *testing.T) {
	for _, x := range edges() {
		quotient, left, e := natOf(t, x).Div(number.Nat{})
		sameError(t, "the quotient", quotient, e, api.ErrArg)
		sameError(t, "what is left", left, e, api.ErrArg)
	}
}

// P5.2: quotients of which a digit, guessed from the first digits, is 1 or 2 too great, at each length of the divisor.
func TestDivWhereGuessesGoWrong(t *testing.T) {
	for n := uint(1); n < 8; n++ {
		for _, top := range []int64{1 << 31, 1<<31 + 1, 1<<32 - 1, 1, 3, 1<<16 + 1} {
			by := new(big.Int).Lsh(big.NewInt(top), 32*n)
			for _, low := range []*big.Int{big.NewInt(0), big.NewInt(1), two(32*n, -1), two(32*n-1, 0)} {
				y := new(big.Int).Or(by, low)
				for _, q := range []*big.Int{big.NewInt(1), two(32, -1), two(32, -2), two(64, -1), two(63, 1), two(96, -3)} {
					product := new(big.Int).Mul(y, q)
					for more := int64(-2); more <= 2; more++ {
						divideAsTheLibrary(t, new(big.Int).Add(product, big.NewInt(more)), y)
					}
				}
			}
		}
	}
}

// A Nat is a value: reckoning with it changes neither it nor a copy of it.
func TestNothingElseChanges(t *testing.T) {
	x, y := new(big.Int).Mul(two(90, 7), big.NewInt(12345)), two(70, 9)
	a, b := natOf(t, x), natOf(t, y)
	copied := a
	a.Cmp(b)
	a.Add(b)
	a.Sub(b)
	a.Mul(b)
	a.Div(b)
	a.Pow(b, b)
	a.Inv(b)
	a.Wide(40)
	if bigOf(a).Cmp(x) != 0 || bigOf(b).Cmp(y) != 0 || copied != a {
		t.Errorf("%x, %x became %x, %x", x, y, a.Bytes(), b.Bytes())
	}
}
