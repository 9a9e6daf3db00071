package curve_test

import (
	"crypto/ecdsa"
	"crypto/elliptic"
	"crypto/sha256"
	"encoding/base64"
	"math/big"
	"math/rand"
	"strings"
	"testing"

	"guidepost/curve"
)

// digestOf is SHA-256 of a text as a number.
func digestOf(text string) *big.Int {
	sum := sha256.Sum256([]byte(text))
	return new(big.Int).SetBytes(sum[:])
}

// signed is the sign of whoever knows how often G makes the public point, with a number that is drawn for it.
func signed(t *testing.T, secret, once *big.Int, text string) string {
	t.Helper()
	r := modulo(bigOf(times(t, once, g)[:32]), n)
	s := new(big.Int).Add(digestOf(text), product(n, r, secret))
	return wide(r) + wide(product(n, s, inverse(once, n)))
}

// keyFor is the public point by which r and s are a sign of the text that leads to the point met: Verify's equation, solved for the key.
func keyFor(t *testing.T, text string, met string, r, s *big.Int) string {
	t.Helper()
	over := inverse(r, n)
	back := modulo(new(big.Int).Neg(product(n, digestOf(text), over)), n)
	return sum(t, times(t, product(n, s, over), met), times(t, back, g))
}

// libraryTakes is whether the library takes the sign.
func libraryTakes(public, text, sign string) bool {
	key := ecdsa.PublicKey{Curve: elliptic.P256(), X: bigOf(public[:32]), Y: bigOf(public[32:])}
	sum := sha256.Sum256([]byte(text))
	return ecdsa.Verify(&key, sum[:], bigOf(sign[:32]), bigOf(sign[32:]))
}

// The example: RFC 6979's key, and its signs of two texts.
var (
	key    = unhex("60fed4ba255a9d31c961eb74c6356d68c049b8923b61fa6ce669622e60f29fb6 7903fe1008b8bc99a41ae9e95628bc64f2f1b20c2d7e9f5177a3c294d4462299")
	sample = unhex("efd48b2aacb6a8fd1140dd9cd45e81d69d2c877b56aaf991c34d0ea84eaf3716 f7cb1c942d657c41d436c7a1b6e29f65f3e900dbb9aff4064dc4ab2f843acda8")
	test   = unhex("f1abb023518351cd71d881567b1ea663ed3efcf6c5132b354f28d3b0b7d38367 019f4113742a2b14bd25926b49c649155f267e60d3814b4c0cc84250e46f0083")
)

// P7.2: the example, and RFC 6979's other sign; each is of its own text alone.
func TestVerifyExamples(t *testing.T) {
	for _, x := range []struct {
		text, sign string
		want       bool
	}{
		{"sample", sample, true},
		{"test", test, true},
		{"sample", test, false},
		{"test", sample, false},
		{"", sample, false},
		{"samplE", sample, false},
		{"sample\x00", sample, false},
	} {
		if got := curve.Verify(key, x.text, x.sign); got != x.want {
			t.Errorf("%q: %v", x.text, got)
		}
	}
}

// P7.2: the key and the signature of RFC 6605, part 6.1: the RRSIG's fields and the set that it signs are the text.
func TestVerifyOfAZone(t *testing.T) {
	public := unbase(t, "GojIhhXUN/u4v54ZQqGSnyhWJwaubCvTmeexv7bR6edbkrSqQpF64cYbcB7wNcP+e+MAnLr+Wi9xMWyQLc8NAA==")
	sign := unbase(t, "qx6wLYqmh+l9oCKTN6qIc+bw6ya+KJ8oMz0YP107epXAyGmt+3SNruPFKG7tZoLBLlUzGGus7ZwmwWep666VCw==")
	text := unhex("0001 0d 03 00000e10 4c88b137 4c63c737 d960") + "\x07example\x03net\x00" +
		"\x03www\x07example\x03net\x00" + unhex("0001 0001 00000e10 0004 c0000201")
	if !curve.Verify(public, text, sign) {
		t.Error("the signature of www.example.net.")
	}
	if curve.Verify(public, text[:len(text)-1]+"\x02", sign) {
		t.Error("another address")
	}
}

func unbase(t *testing.T, text string) string {
	t.Helper()
	s, err := base64.StdEncoding.DecodeString(text)
	if err != nil {
		t.Fatal(err)
	}
	return string(s)
}

// P7.2: NOWHERE, and what is no point, is no key.
func TestVerifyOfNoKey(t *testing.T) {
	for why, bad := range noPoints() {
		if curve.Verify(bad, "sample", sample) {
			t.Error(why)
		}
	}
	if curve.Verify("", "sample", sample) {
		t.Error("NOWHERE")
	}
	// With NOWHERE as the key the sign would be right if e / s times G had r as its x: anybody could make it.
	e := digestOf("anybody")
	r := modulo(bigOf(times(t, e, g)[:32]), n)
	if curve.Verify("", "anybody", wide(r)+small(1)) {
		t.Error("NOWHERE, and a sign for it")
	}
}

// P7.2: a sign has 64 bytes.
func TestVerifyOfLengths(t *testing.T) {
	for _, sign := range []string{
		"", sample[:1], sample[:32], sample[32:], sample[:63], sample[1:], sample + "\x00", "\x00" + sample,
		sample[:32] + "\x00" + sample[32:], sample + sample, sample[:32] + sample,
	} {
		if curve.Verify(key, "sample", sign) {
			t.Errorf("%d bytes: %x", len(sign), sign)
		}
	}
}

// P7.2: an r or an s of 0, or of n and more, is no sign, where one that counts modulo n would be.
func TestVerifyOfRange(t *testing.T) {
	most := shifted(two(256), -1)
	for _, bad := range []*big.Int{big.NewInt(0), n, shifted(n, 1), p, most} {
		for _, sign := range []string{wide(bad) + sample[32:], sample[:32] + wide(bad), wide(bad) + wide(bad)} {
			if curve.Verify(key, "sample", sign) {
				t.Errorf("%x", sign)
			}
		}
	}
	// The same sign but for n that is added: s is small enough for 32 bytes only where the key is made so.
	met, _ := withX(big.NewInt(5))
	for _, s := range []*big.Int{big.NewInt(1), big.NewInt(2), shifted(n, -1)} {
		public := keyFor(t, "text", met, big.NewInt(5), s)
		if !curve.Verify(public, "text", small(5)+wide(s)) {
			t.Errorf("r 5, s %x", s)
		}
		if s.BitLen() < 8 && curve.Verify(public, "text", small(5)+wide(new(big.Int).Add(n, s))) {
			t.Errorf("r 5, s %x and n", s)
		}
		if curve.Verify(public, "text", wide(shifted(n, 5))+wide(s)) {
			t.Errorf("r 5 and n, s %x", s)
		}
	}
}

// P7.2: n - 1 is the greatest r; a point of this x makes it a sign.
func TestVerifyOfTheGreatestR(t *testing.T) {
	tried := 0
	for i := int64(1); i < 12; i++ {
		r := shifted(n, -i)
		met, is := withX(r)
		if !is {
			continue
		}
		tried++
		for _, s := range []*big.Int{big.NewInt(1), shifted(n, -1), digestOf("s")} {
			public := keyFor(t, "text", met, r, s)
			if !curve.Verify(public, "text", wide(r)+wide(s)) {
				t.Errorf("r %x, s %x", r, s)
			}
		}
	}
	// Whether there is a point of x n - 1 or not, such an r is only wrong where it leads elsewhere.
	if tried == 0 || curve.Verify(key, "sample", wide(shifted(n, -1))+sample[32:]) || curve.Verify(key, "sample", sample[:32]+wide(shifted(n, -1))) {
		t.Error(tried)
	}
}

// P7.2: an x from n to p - 1 counts modulo n, so that r is small.
func TestVerifyOfXAboveN(t *testing.T) {
	tried := 0
	for i := int64(1); i < 20; i++ {
		met, is := withX(shifted(n, i))
		if !is {
			continue
		}
		tried++
		r, s := big.NewInt(i), digestOf("s")
		public := keyFor(t, "text", met, r, s)
		if sign := wide(r) + wide(s); !curve.Verify(public, "text", sign) || !libraryTakes(public, "text", sign) {
			t.Errorf("x is n and %d", i)
		}
		if curve.Verify(public, "text", wide(shifted(n, i))+wide(s)) {
			t.Errorf("r is n and %d", i)
		}
		if sign := wide(shifted(r, 1)) + wide(s); curve.Verify(public, "text", sign) {
			t.Errorf("x is n and %d, r one more", i)
		}
	}
	if tried < 5 {
		t.Errorf("%d points", tried)
	}
}

// P7.2: a digest of n and more counts modulo n.
func TestVerifyOfAGreatDigest(t *testing.T) {
	const text = "text 1365352565"
	if digestOf(text).Cmp(n) < 0 {
		t.Fatal("the digest is small")
	}
	secret, once := digestOf("secret"), digestOf("once")
	public, sign := times(t, secret, g), signed(t, secret, once, text)
	if !curve.Verify(public, text, sign) || !libraryTakes(public, text, sign) {
		t.Error("a good sign")
	}
}

// P7.2: where G's part and the key's are opposite they come to NOWHERE, which is no sign whatever r is.
func TestVerifyOfNowhere(t *testing.T) {
	secret, e := digestOf("secret"), digestOf("text")
	public := times(t, secret, g)
	r := modulo(new(big.Int).Neg(product(n, e, inverse(secret, n))), n)
	for _, s := range []*big.Int{big.NewInt(1), e, shifted(n, -1)} {
		if curve.Verify(public, "text", wide(r)+wide(s)) {
			t.Errorf("r %x, s %x", r, s)
		}
	}
}

// P7.2: where G's part and the key's are the same point their sum is a point and itself.
func TestVerifyOfTheSameTwice(t *testing.T) {
	e, once := digestOf("text"), digestOf("once")
	r := modulo(bigOf(times(t, once, g)[:32]), n)
	public := times(t, product(n, e, inverse(r, n)), g)
	s := product(n, big.NewInt(2), e, inverse(once, n))
	if sign := wide(r) + wide(s); !curve.Verify(public, "text", sign) || !libraryTakes(public, "text", sign) {
		t.Error("a good sign")
	}
}

// P7.2: a bit that is turned, of sign, text or key, makes it wrong.
func TestVerifyTurned(t *testing.T) {
	turned := func(s string, i int) string {
		bytes := []byte(s)
		bytes[i/8] ^= 1 << (i % 8)
		return string(bytes)
	}
	for i := 0; i < 8*len(sample); i += 3 {
		if curve.Verify(key, "sample", turned(sample, i)) {
			t.Errorf("bit %d of the sign", i)
		}
		if curve.Verify(turned(key, i), "sample", sample) {
			t.Errorf("bit %d of the key", i)
		}
	}
	for i := range 8 * len("sample") {
		if curve.Verify(key, turned("sample", i), sample) {
			t.Errorf("bit %d of the text", i)
		}
	}
	if curve.Verify(opposite(key), "sample", sample) || curve.Verify(g, "sample", sample) {
		t.Error("another point as the key")
	}
	if curve.Verify(key, "sample", sample[32:]+sample[:32]) {
		t.Error("s ahead of r")
	}
}

// P7.2: the point's opposite has the same x, so that n - s is as good as s.
func TestVerifyOfTheOtherS(t *testing.T) {
	other := new(big.Int).Sub(n, bigOf(sample[32:]))
	if !curve.Verify(key, "sample", sample[:32]+wide(other)) {
		t.Error("n - s")
	}
}

// P7.3: whoever knows how often G makes the point makes a sign that Verify takes, and the library, too.
func TestVerifyOfDrawnKeys(t *testing.T) {
	r := rand.New(rand.NewSource(75))
	for i := range 25 {
		secret, once := shifted(drawn(r, shifted(n, -1)), 1), shifted(drawn(r, shifted(n, -1)), 1)
		public, text := times(t, secret, g), strings.Repeat("x", i*i)
		sign := signed(t, secret, once, text)
		if !curve.Verify(public, text, sign) || !libraryTakes(public, text, sign) {
			t.Errorf("%x, %d bytes: %x", public, len(text), sign)
		}
		if curve.Verify(public, text+"x", sign) {
			t.Errorf("%x, %d bytes and one more", public, len(text))
		}
	}
}

// P7.3: the least secrets and the greatest one.
func TestVerifyOfEdgeKeys(t *testing.T) {
	for _, secret := range []*big.Int{big.NewInt(1), big.NewInt(2), shifted(n, -1)} {
		for _, once := range []*big.Int{big.NewInt(1), big.NewInt(2), shifted(n, -1)} {
			public, sign := times(t, secret, g), signed(t, secret, once, "text")
			if !curve.Verify(public, "text", sign) || !libraryTakes(public, "text", sign) {
				t.Errorf("%x, %x", secret, once)
			}
		}
	}
}
