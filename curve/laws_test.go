package curve_test

import (
	"math/big"
	"math/rand"
	"testing"
)

// P7.3: sums may be reckoned in any order, where points come twice, are opposite or NOWHERE, too.
func TestSumInAnyOrder(t *testing.T) {
	r, all := rand.New(rand.NewSource(73)), somePoints()
	for range 400 {
		a, b, c := all[r.Intn(len(all))], all[r.Intn(len(all))], all[r.Intn(len(all))]
		if sum(t, a, b) != sum(t, b, a) {
			t.Errorf("%x and %x", a, b)
		}
		if sum(t, sum(t, a, b), c) != sum(t, a, sum(t, b, c)) {
			t.Errorf("%x, %x and %x", a, b, c)
		}
	}
}

// P7.3: Times of k and one more is the Sum with the point; of a sum of numbers it is the sum.
func TestTimesOfSums(t *testing.T) {
	r := rand.New(rand.NewSource(74))
	for range 12 {
		k, l := drawn(r, two(255)), drawn(r, two(255))
		a := times(t, drawn(r, n), g)
		if sum(t, times(t, k, a), a) != times(t, shifted(k, 1), a) {
			t.Errorf("%x and one more, of %x", k, a)
		}
		if sum(t, times(t, k, a), times(t, l, a)) != times(t, new(big.Int).Add(k, l), a) {
			t.Errorf("%x and %x of %x", k, l, a)
		}
		if times(t, k, times(t, l, a)) != times(t, product(n, k, l), a) {
			t.Errorf("%x times %x of %x", k, l, a)
		}
	}
}

// P7.3: n times, each point comes to NOWHERE.
func TestOrder(t *testing.T) {
	for _, a := range somePoints() {
		if s := times(t, n, a); s != "" {
			t.Errorf("n times %x: %x", a, s)
		}
	}
}
