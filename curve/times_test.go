package curve_test

import (
	"crypto/elliptic"
	"math/big"
	"math/rand"
	"strings"
	"testing"

	"guidepost/api"
	"guidepost/curve"
)

// P7.1: k must have 32 bytes, which is told ahead of what is wrong with the point; then the point must be one.
func TestTimesRefused(t *testing.T) {
	ks := []string{"", "\x01", small(1)[1:], "\x00" + small(1), small(1) + small(1), strings.Repeat("\xff", 31), strings.Repeat("\x00", 33)}
	for _, k := range ks {
		for _, a := range []string{g, "", g[:63], "x"} {
			if s, e := curve.Times(k, a); s != "" || e != api.ErrArg {
				t.Errorf("%x times %x: %x, %v", k, a, s, e)
			}
		}
	}
	for why, bad := range noPoints() {
		for _, k := range []string{small(0), small(1), small(2), wide(n), strings.Repeat("\xff", 32)} {
			if s, e := curve.Times(k, bad); s != "" || e != api.ErrKey {
				t.Errorf("%s: %x, %v", why, s, e)
			}
		}
	}
}

// P7.1, P7.3: none, one, n and its neighbours, and the greatest number, of many points.
func TestTimesEdges(t *testing.T) {
	half := new(big.Int).Rsh(n, 1) // twice this and one more is n
	for _, a := range []string{g, none, few, opposite(g)} {
		twice := modelSum(a, a)
		for _, x := range []struct {
			k    *big.Int
			want string
		}{
			{big.NewInt(0), ""},
			{big.NewInt(1), a},
			{big.NewInt(2), twice},
			{big.NewInt(3), modelSum(twice, a)},
			{shifted(n, -2), opposite(twice)},
			{shifted(n, -1), opposite(a)},
			{n, ""},
			{shifted(n, 1), a},
			{shifted(n, 2), twice},
			{shifted(n, 3), modelSum(twice, a)},
			{shifted(half, 1), opposite(modelTimes(half, a))},
			{shifted(two(256), -1), modelTimes(modulo(shifted(two(256), -1), n), a)},
			{two(255), modelTimes(two(255), a)},
			{p, modelTimes(new(big.Int).Sub(p, n), a)},
		} {
			if s := times(t, x.k, a); s != x.want {
				t.Errorf("%x times %x: %x, not %x", x.k, a, s, x.want)
			}
		}
	}
}

// P7.1: NOWHERE, however often it is taken.
func TestTimesOfNowhere(t *testing.T) {
	for _, k := range []*big.Int{big.NewInt(0), big.NewInt(1), big.NewInt(2), n, shifted(n, 1), shifted(two(256), -1)} {
		if s := times(t, k, ""); s != "" {
			t.Errorf("%x times: %x", k, s)
		}
	}
}

// P7.1: small numbers, one by one, as adding again and again.
func TestTimesCounts(t *testing.T) {
	for _, a := range []string{g, none} {
		s := ""
		for k := range int64(40) {
			if got := times(t, big.NewInt(k), a); got != s {
				t.Errorf("%d times %x: %x, not %x", k, a, got, s)
			}
			s = modelSum(s, a)
		}
	}
}

// P7.1: each single bit of k stands where it must.
func TestTimesOfEachBit(t *testing.T) {
	s := g
	for i := range uint(256) {
		if got := times(t, two(i), g); got != s {
			t.Fatalf("2 to the power of %d: %x, not %x", i, got, s)
		}
		s = modelSum(s, s)
	}
}

// P7.1: Times as the library reckons it, of drawn numbers of all 32 bytes and drawn points.
func TestTimesAsTheLibrary(t *testing.T) {
	r, library := rand.New(rand.NewSource(72)), elliptic.P256()
	for range 40 {
		x, y := library.ScalarBaseMult(drawn(r, n).Bytes())
		k := drawn(r, two(uint(1+r.Intn(256))))
		x2, y2 := library.ScalarMult(x, y, k.Bytes())
		want := wide(x2) + wide(y2)
		if modulo(k, n).Sign() == 0 {
			want = ""
		}
		if s := times(t, k, wide(x)+wide(y)); s != want {
			t.Errorf("%x times %x, %x: %x, not %x", k, x, y, s, want)
		}
	}
}
