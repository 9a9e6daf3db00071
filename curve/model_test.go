package curve_test

import (
	"encoding/hex"
	"math/big"
	"math/rand"
	"strings"
	"testing"

	"guidepost/api"
	"guidepost/curve"
)

// The document's numbers, p as it tells it.
var (
	p = new(big.Int).Sub(new(big.Int).Add(new(big.Int).Sub(two(256), two(224)), new(big.Int).Add(two(192), two(96))), big.NewInt(1))
	n = great("ffffffff00000000ffffffffffffffffbce6faada7179e84f3b9cac2fc632551")
	b = great("5ac635d8aa3a93e7b3ebbd55769886bc651d06b0cc53b0f63bce3c3e27d2604b")
	g = unhex("6b17d1f2e12c4247f8bce6e563a440f277037d812deb33a0f4a13945d898c296" +
		"4fe342e2fe1a7f9b8ee7eb4a7c0f9e162bce33576b315ececbb6406837bf51f5")
)

func two(bits uint) *big.Int { return new(big.Int).Lsh(big.NewInt(1), bits) }

func great(digits string) *big.Int {
	a, right := new(big.Int).SetString(digits, 16)
	if !right {
		panic(digits)
	}
	return a
}

func unhex(digits string) string {
	s, err := hex.DecodeString(strings.ReplaceAll(digits, " ", ""))
	if err != nil {
		panic(err)
	}
	return string(s)
}

func bigOf(s string) *big.Int { return new(big.Int).SetBytes([]byte(s)) }

// wide is a number in 32 bytes.
func wide(a *big.Int) string { return string(a.FillBytes(make([]byte, 32))) }

func small(a int64) string { return wide(big.NewInt(a)) }

// shifted is a number and so many more.
func shifted(a *big.Int, by int64) *big.Int { return new(big.Int).Add(a, big.NewInt(by)) }

// modulo is a number below m; of one below 0, too.
func modulo(a, m *big.Int) *big.Int { return new(big.Int).Mod(a, m) }

func product(m *big.Int, all ...*big.Int) *big.Int {
	out := big.NewInt(1)
	for _, a := range all {
		out.Mod(out.Mul(out, a), m)
	}
	return out
}

func inverse(a, m *big.Int) *big.Int { return new(big.Int).ModInverse(a, m) }

// opposite is the point with its second number taken from p.
func opposite(a string) string { return a[:32] + wide(new(big.Int).Sub(p, bigOf(a[32:]))) }

// right is x * x * x - 3 * x + b, which y * y must be.
func right(x *big.Int) *big.Int {
	s := new(big.Int).Sub(product(p, x, x, x), product(p, big.NewInt(3), x))
	return modulo(s.Add(s, b), p)
}

// modelOn is the document's sentence, word by word.
func modelOn(s string) bool {
	if len(s) != 64 {
		return false
	}
	x, y := bigOf(s[:32]), bigOf(s[32:])
	return x.Cmp(p) < 0 && y.Cmp(p) < 0 && product(p, y, y).Cmp(right(x)) == 0
}

// modelSum is the document's sum, word by word.
func modelSum(a, b string) string {
	switch {
	case a == "":
		return b
	case b == "":
		return a
	case a == opposite(b):
		return ""
	}
	x1, y1, x2, y2 := bigOf(a[:32]), bigOf(a[32:]), bigOf(b[:32]), bigOf(b[32:])
	over, under := new(big.Int).Sub(y2, y1), new(big.Int).Sub(x2, x1)
	if a == b {
		over = shifted(product(p, big.NewInt(3), x1, x1), -3)
		under = new(big.Int).Lsh(y1, 1)
	}
	s := product(p, over, inverse(modulo(under, p), p))
	x3 := new(big.Int).Sub(product(p, s, s), x1)
	x3 = modulo(x3.Sub(x3, x2), p)
	y3 := product(p, s, new(big.Int).Sub(x1, x3))
	return wide(x3) + wide(modulo(y3.Sub(y3, y1), p))
}

// modelTimes adds a point as often as k says, by the model's sum; k may be greater than n.
func modelTimes(k *big.Int, a string) string {
	sum := ""
	for i := k.BitLen() - 1; i >= 0; i-- {
		sum = modelSum(sum, sum)
		if k.Bit(i) == 1 {
			sum = modelSum(sum, a)
		}
	}
	return sum
}

// drawn is a number below m.
func drawn(r *rand.Rand, m *big.Int) *big.Int { return new(big.Int).Rand(r, m) }

// sum is Sum of what must be points.
func sum(t *testing.T, a, b string) string {
	t.Helper()
	s, e := curve.Sum(a, b)
	if e != api.OK {
		t.Fatalf("Sum of %x, %x: %v", a, b, e)
	}
	return s
}

// times is Times of what must be a number and a point.
func times(t *testing.T, k *big.Int, a string) string {
	t.Helper()
	s, e := curve.Times(wide(k), a)
	if e != api.OK {
		t.Fatalf("Times of %x, %x: %v", k, a, e)
	}
	return s
}

// withX is the point with an even y of this x, if there is one.
func withX(x *big.Int) (string, bool) {
	y := new(big.Int).ModSqrt(right(x), p)
	if y == nil {
		return "", false
	}
	if y.Bit(0) == 1 {
		y.Sub(p, y)
	}
	return wide(x) + wide(y), true
}
