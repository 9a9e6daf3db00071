package curve_test

import (
	"crypto/elliptic"
	"math/big"
	"math/rand"
	"strings"
	"testing"

	"guidepost/api"
	"guidepost/curve"
)

// few is a point whose y is no more than 5, none is one whose x is 0.
var (
	few  = unhex("d7325d7646cd60d80a92738ceb345f844cffaf35841022cab176f692de8de1d7") + small(5)
	none = small(0) + unhex("66485c780e2f83d72433bd5d84a06bb6541c2af31dae871728bf856a174f93f4")
)

// noPoints are bytes that are no point, each for its own reason.
func noPoints() map[string]string {
	bytes := strings.Repeat("\x00", 64)
	return map[string]string{
		"one byte":               "\x00",
		"a half":                 g[:32],
		"63 bytes":               g[:63],
		"63 bytes, the first":    g[1:],
		"65 bytes":               g + "\x00",
		"65 bytes, nought ahead": "\x00" + g,
		"twice 64":               g + g,
		"with a head":            "\x04" + g,
		"noughts":                bytes,
		"the greatest":           strings.Repeat("\xff", 64),
		"x is p":                 wide(p) + none[32:],
		"x is p, y the other":    wide(p) + opposite(none)[32:],
		"y is 5 and p":           few[:32] + wide(shifted(p, 5)),
		"y is p":                 few[:32] + wide(p),
		"y is 0":                 g[:32] + small(0),
		"x is 0, y too":          small(0) + small(0),
		"y one more":             g[:32] + wide(shifted(bigOf(g[32:]), 1)),
		"x one more":             wide(shifted(bigOf(g[:32]), 1)) + g[32:],
		"halves turned round":    g[32:] + g[:32],
		"y is less by n":         none[:32] + wide(modulo(new(big.Int).Sub(n, bigOf(none[32:])), p)),
	}
}

// P7.1: On of points, of edges, and of what is none.
func TestOn(t *testing.T) {
	for _, a := range []string{g, opposite(g), few, opposite(few), none, opposite(none)} {
		if !curve.On(a) {
			t.Errorf("%x is a point", a)
		}
	}
	for why, a := range noPoints() {
		if curve.On(a) {
			t.Errorf("%s: %x is no point", why, a)
		}
	}
	if curve.On("") {
		t.Error("NOWHERE has no 64 bytes")
	}
}

// P7.1: On as the document's equation, of each byte of a point turned, and of each x that is near an edge.
func TestOnAsTheModel(t *testing.T) {
	for i := range 64 {
		for bit := range 8 {
			s := []byte(g)
			s[i] ^= 1 << bit
			if got := curve.On(string(s)); got != modelOn(string(s)) {
				t.Errorf("%x: %v", s, got)
			}
		}
	}
	for i := int64(1); i < 40; i++ {
		for _, x := range []*big.Int{big.NewInt(i), shifted(p, -i), shifted(n, i), shifted(n, -i)} {
			a, is := withX(x)
			if is && (!curve.On(a) || !curve.On(opposite(a)) || !modelOn(a)) {
				t.Errorf("%x is a point", a)
			}
			if curve.On(wide(x) + small(i)) {
				t.Errorf("%x is no point", wide(x)+small(i))
			}
		}
	}
}

// P7.1: G, and what it is made of.
func TestBase(t *testing.T) {
	if curve.Base() != g || curve.Base() != curve.Base() {
		t.Errorf("%x", curve.Base())
	}
	if !curve.On(curve.Base()) {
		t.Error("G is a point")
	}
}

// P7.1: what is no point is refused, at either place, whatever the other is, and nothing is answered beside.
func TestSumOfNoPoint(t *testing.T) {
	for why, bad := range noPoints() {
		for _, other := range []string{"", g, none, bad, "x"} {
			for _, x := range [][2]string{{bad, other}, {other, bad}} {
				if s, e := curve.Sum(x[0], x[1]); s != "" || e != api.ErrKey {
					t.Errorf("%s, with %x: %x, %v", why, other, s, e)
				}
			}
		}
	}
}

// P7.1: the example; NOWHERE as either and as both; a point and its opposite.
func TestSumEdges(t *testing.T) {
	twice := unhex("7cf27b188d034f7e8a52380304b51ac3c08969e277f21b35a60b48fc47669978" +
		"07775510db8ed040293d9ac69f7430dbba7dade63ce982299e04b79d227873d1")
	thrice := unhex("5ecbe4d1a6330a44c8f7ef951d4bf165e6c6b721efada985fb41661bc6e7fd6c" +
		"8734640c4998ff7e374b06ce1a64a2ecd82ab036384fb83d9a79b127a27d5032")
	for _, x := range []struct{ a, b, want string }{
		{g, g, twice},
		{g, twice, thrice},
		{twice, g, thrice},
		{thrice, opposite(g), twice},
		{twice, opposite(g), g},
		{opposite(g), opposite(g), opposite(twice)},
		{"", "", ""},
		{g, "", g},
		{"", g, g},
		{"", none, none},
		{few, "", few},
		{g, opposite(g), ""},
		{opposite(g), g, ""},
		{none, opposite(none), ""},
		{few, opposite(few), ""},
		{twice, opposite(twice), ""},
	} {
		if s := sum(t, x.a, x.b); s != x.want {
			t.Errorf("%x and %x: %x, not %x", x.a, x.b, s, x.want)
		}
	}
}

// somePoints are NOWHERE, the least multiples of G, opposites, and points of edges.
func somePoints() []string {
	all := []string{"", none, opposite(none), few, opposite(few)}
	a := ""
	for range 6 {
		a = modelSum(a, g)
		all = append(all, a, opposite(a))
	}
	high, _ := withX(shifted(n, 3))
	return append(all, high, opposite(high))
}

// P7.1: Sum as the document's words, of each two of many points.
func TestSumAsTheModel(t *testing.T) {
	all := somePoints()
	for _, a := range all {
		for _, b := range all {
			if s, want := sum(t, a, b), modelSum(a, b); s != want {
				t.Errorf("%x and %x: %x, not %x", a, b, s, want)
			}
		}
	}
}

// P7.1: Sum as the library reckons it, of drawn points.
func TestSumAsTheLibrary(t *testing.T) {
	r, library := rand.New(rand.NewSource(71)), elliptic.P256()
	for range 60 {
		x1, y1 := library.ScalarBaseMult(drawn(r, n).Bytes())
		x2, y2 := library.ScalarBaseMult(drawn(r, n).Bytes())
		x3, y3 := library.Add(x1, y1, x2, y2)
		x4, y4 := library.Double(x1, y1)
		a, b := wide(x1)+wide(y1), wide(x2)+wide(y2)
		if s := sum(t, a, b); s != wide(x3)+wide(y3) {
			t.Errorf("%x and %x: %x", a, b, s)
		}
		if s := sum(t, a, a); s != wide(x4)+wide(y4) {
			t.Errorf("twice %x: %x", a, s)
		}
	}
}
