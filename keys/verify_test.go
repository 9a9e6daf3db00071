package keys_test

import (
	"crypto"
	"crypto/rsa"
	"crypto/sha256"
	"math/big"
	"math/rand"
	"strings"
	"testing"

	"guidepost/api"
	"guidepost/keys"
	"guidepost/number"
)

// pair is a key of RSA with its secret.
type pair struct{ e, n, secret *big.Int }

// public is the key as a DNSKEY has it.
func (k pair) public() string {
	if e := string(k.e.Bytes()); len(e) < 256 {
		return brief(e) + string(k.n.Bytes())
	}
	return long(string(k.e.Bytes())) + string(k.n.Bytes())
}

// size is how many bytes the modulus has.
func (k pair) size() int { return len(k.n.Bytes()) }

// sign is the block to the power of the secret, in as many bytes as the modulus has.
func (k pair) sign(block string) string {
	x := new(big.Int).SetBytes([]byte(block))
	return string(x.Exp(x, k.secret, k.n).FillBytes(make([]byte, k.size())))
}

// prime is a drawn prime of just so many bits, the two greatest of them 1, so that the product of two of them has all of their bits.
func prime(r *rand.Rand, bits int) *big.Int {
	top := new(big.Int).Lsh(big.NewInt(3), uint(bits-2))
	for {
		x := new(big.Int).Rand(r, new(big.Int).Lsh(big.NewInt(1), uint(bits-2)))
		x.Or(x, top).SetBit(x, 0, 1)
		if x.ProbablyPrime(10) {
			return x
		}
	}
}

// drawnPair is a key whose modulus has just so many bits.
func drawnPair(r *rand.Rand, bits int, e *big.Int) pair {
	for {
		p, q := prime(r, bits/2), prime(r, bits-bits/2)
		p1, q1 := new(big.Int).Sub(p, big.NewInt(1)), new(big.Int).Sub(q, big.NewInt(1))
		secret := new(big.Int).ModInverse(e, new(big.Int).Mul(p1, q1))
		if secret != nil && p.Cmp(q) != 0 {
			return pair{e, new(big.Int).Mul(p, q), secret}
		}
	}
}

// blockOf is what the sign of a text is of, by the library's digest.
func blockOf(text string, many int) string {
	sum := sha256.Sum256([]byte(text))
	tail := "\x00\x30\x31\x30\x0d\x06\x09\x60\x86\x48\x01\x65\x03\x04\x02\x01\x05\x00\x04\x20" + string(sum[:])
	return "\x00\x01" + strings.Repeat("\xff", many-2-len(tail)) + tail
}

// P6.3: a signature out of RFC 5702 (6.1).
func TestVerifyExample(t *testing.T) {
	d := keyData(t, "\x01\x00\x03\x08", `
		AwEAAcFcGsaxxdgiuuGmCkVImy4h99CqT7jwY3pexPGcnUFtR2Fh36BponcwtkZ4cAgtvd4Qs8PkxUdp6p/DlUmObdk=`)
	sign := keyData(t, "", `kRCOH6u7l0QGy9qpC9l1sLncJcOKFLJ7GhiUOibu4teYp5VE9RncriShZNz85mwlMgNEacFYK/lPtPiVYP4bwg==`)
	const zone = "\x07example\x03net\x00"
	text := bytesOf(t, "0001"+"08"+"03"+"00000e10"+"70dbd880"+"386d4380"+"2349") + zone +
		"\x03www" + zone + bytesOf(t, "0001"+"0001"+"00000e10"+"0004"+"c000025b")
	if tag, e := keys.Tag(d); tag != 9033 || e != api.OK {
		t.Error(tag, e)
	}
	if !keys.Verify(d[4:], text, sign) {
		t.Error("the example's sign is not taken")
	}
	for i := range len(text) {
		if keys.Verify(d[4:], turned(text, i), sign) {
			t.Errorf("the text may have another byte %d", i)
		}
	}
}

// P6.3, P6.4: whoever has the secret makes a sign that is taken, of keys from the least to the greatest; with one byte of it, of the key or of the text turned it is not.
func TestVerify(t *testing.T) {
	r := rand.New(rand.NewSource(63))
	greatE := new(big.Int).SetBit(big.NewInt(1), 2047, 1)
	for _, c := range []struct {
		bits int
		e    *big.Int
	}{
		{496, big.NewInt(3)}, {497, big.NewInt(65537)}, {503, big.NewInt(17)}, {504, big.NewInt(5)}, {505, big.NewInt(3)},
		{512, big.NewInt(65537)}, {768, new(big.Int).SetBit(big.NewInt(1), 600, 1)}, {1023, big.NewInt(3)},
		{1024, big.NewInt(65537)}, {1025, big.NewInt(65537)}, {2047, big.NewInt(3)}, {2048, big.NewInt(65537)},
		{496, greatE}, {600, new(big.Int).SetBit(big.NewInt(1), 2039, 1)}, {600, new(big.Int).SetBit(big.NewInt(1), 2040, 1)},
	} {
		k := drawnPair(r, c.bits, c.e)
		if k.n.BitLen() != c.bits {
			t.Fatalf("a modulus of %d bits, want %d", k.n.BitLen(), c.bits)
		}
		for _, text := range []string{"", "a text", strings.Repeat("\x00\xff", 3000)} {
			sign := k.sign(blockOf(text, k.size()))
			if !keys.Verify(k.public(), text, sign) {
				t.Errorf("%d bits: Verify(%x, %q, %x) is false", c.bits, k.public(), text, sign)
			}
			if keys.Verify(k.public(), text+"\x00", sign) {
				t.Errorf("%d bits: Verify takes another text than %q", c.bits, text)
			}
			for range 5 {
				at, in := r.Intn(k.size()), r.Intn(len(k.public()))
				if keys.Verify(k.public(), text, turned(sign, at)) || keys.Verify(turned(k.public(), in), text, sign) {
					t.Errorf("%d bits: Verify of a sign with another byte %d, or a key with another byte %d, is true", c.bits, at, in)
				}
			}
		}
	}
}

// P6.4: the secret exponent is Inv's, the sign Pow's: this program's own numbers are enough.
func TestSignByNumbers(t *testing.T) {
	r := rand.New(rand.NewSource(65))
	p, q := prime(r, 300), prime(r, 300)
	natOf := func(x *big.Int) number.Nat {
		a, e := number.Of(string(x.Bytes()))
		if e != api.OK {
			t.Fatal(e)
		}
		return a
	}
	one := big.NewInt(1)
	totient := natOf(new(big.Int).Mul(p.Sub(p, one), q.Sub(q, one)))
	n := natOf(new(big.Int).Mul(p.Add(p, one), q.Add(q, one)))
	secret, e := number.Small(65537).Inv(totient)
	if e != api.OK {
		t.Fatal(e)
	}
	block, e := number.Of(blockOf("signed", 75))
	power, e2 := block.Pow(secret, n)
	sign, e3 := power.Wide(75)
	if e != api.OK || e2 != api.OK || e3 != api.OK || !keys.Verify("\x03\x01\x00\x01"+n.Bytes(), "signed", sign) {
		t.Error(e, e2, e3)
	}
}

// P6.3: the library takes what Verify takes.
func TestVerifyAsTheLibrary(t *testing.T) {
	r := rand.New(rand.NewSource(66))
	for _, bits := range []int{1024, 1032, 1536} {
		k := drawnPair(r, bits, big.NewInt(65537))
		their := &rsa.PublicKey{N: k.n, E: 65537}
		for range 10 {
			text := make([]byte, r.Intn(300))
			r.Read(text)
			sum := sha256.Sum256(text)
			sign := k.sign(blockOf(string(text), k.size()))
			if r.Intn(2) == 0 {
				sign = turned(sign, r.Intn(len(sign)))
			}
			want := rsa.VerifyPKCS1v15(their, crypto.SHA256, sum[:], []byte(sign)) == nil
			if got := keys.Verify(k.public(), string(text), sign); got != want {
				t.Errorf("Verify(%x, %x, %x) = %v, want %v", k.public(), text, sign, got, want)
			}
		}
	}
}

// P6.3: a sign has just as many bytes as the modulus, noughts ahead count, and is less than it.
func TestVerifyLengthAndSize(t *testing.T) {
	for _, n := range []string{tip(496), ofBits(496), ofBits(497), tip(497), ofBits(504), ofBits(2048), tip(2041)} {
		public := "\x01\x01" + n // by the exponent 1 a sign opens to itself
		sign := blockOf("text", len(n))
		if !keys.Verify(public, "text", sign) {
			t.Errorf("modulus %x: the sign is not taken", n)
		}
		if !keys.Verify("\x00\x00\x01\x01"+n, "text", sign) {
			t.Errorf("modulus %x: the long form is not taken", n)
		}
		for _, wrong := range []string{
			"", "\x00", sign[1:], sign[2:], "\x00" + sign, sign + "\x00", sign[:len(sign)-1], "\x00\x00" + sign, sign + sign,
			n, strings.Repeat("\xff", len(n)), strings.Repeat("\x00", len(n)), strings.Repeat("\xff", 10000),
		} {
			if keys.Verify(public, "text", wrong) {
				t.Errorf("modulus %x: Verify takes %x", n, wrong)
			}
		}
		more := new(big.Int).SetBytes([]byte(n))
		more.Add(more, new(big.Int).SetBytes([]byte(sign)))
		if over := string(more.Bytes()); keys.Verify(public, "text", over) {
			t.Errorf("modulus %x: Verify takes the sign with the modulus added, %x", n, over)
		}
	}
}

// P6.3: of what is no key (P6.2) no sign is right, even if all else is.
func TestVerifyOfWrongKeys(t *testing.T) {
	least := ofBits(496)
	for _, c := range []struct {
		head, n string
		many    int
	}{
		{"\x01\x01", ofBits(495), 62}, {"\x01\x01", tip(489), 62}, {"\x01\x01", tip(2049), 257}, {"\x01\x01", ofBits(2056), 257},
		{"\x01\x01", "\x00" + least, 63}, {"\x01\x01", "\x00" + least, 62}, {"\x02\x00\x01", least, 62}, {"\x00\x00\x02\x00\x01", least, 62},
		{"\x01\x00", least, 62}, {"\x00\x00\x00", least, 62}, {"", least, 62},
	} {
		if keys.Verify(c.head+c.n, "text", blockOf("text", c.many)) {
			t.Errorf("Verify(%x %x) is true", c.head, c.n)
		}
	}
}

// P6.3: a sign that opens to nought, or to what stands one below the modulus, is none.
func TestVerifyAtTheEnds(t *testing.T) {
	for _, e := range []string{"\x01", "\x02", "\x03", ofBits(2048)} {
		for _, n := range []string{tip(496), ofBits(496), ofBits(512)} {
			below := new(big.Int).SetBytes([]byte(n))
			below.Sub(below, big.NewInt(1))
			for _, sign := range []string{strings.Repeat("\x00", len(n)), strings.Repeat("\x00", len(n)-1) + "\x01", string(below.FillBytes(make([]byte, len(n))))} {
				if keys.Verify(long(e)+n, "", sign) {
					t.Errorf("Verify(%x, %x, %x) is true", e, n, sign)
				}
			}
		}
	}
}

// P6.3: the block that a sign opens to is just this one: no other first bytes, no fewer or other bytes FF, no other head, nothing behind the digest.
func TestVerifyBlock(t *testing.T) {
	const head = "\x30\x31\x30\x0d\x06\x09\x60\x86\x48\x01\x65\x03\x04\x02\x01\x05\x00\x04\x20"
	sum := sha256.Sum256([]byte("text"))
	for _, n := range []string{ofBits(496), ofBits(512), ofBits(1024)} {
		public := "\x01\x01" + n
		ff := func(fewer int) string { return strings.Repeat("\xff", max(0, len(n)-54-fewer)) }
		right := "\x00\x01" + ff(0) + "\x00" + head + string(sum[:])
		if !keys.Verify(public, "text", right) {
			t.Errorf("modulus %x: the block is not taken", n)
		}
		for i := range len(right) {
			for _, bit := range []byte{1, 2, 0x40, 0x80} {
				wrong := []byte(right)
				wrong[i] ^= bit
				if keys.Verify(public, "text", string(wrong)) {
					t.Errorf("modulus %x: Verify takes the block %x", n, wrong)
				}
			}
		}
		const bare = "\x30\x2f\x30\x0b\x06\x09\x60\x86\x48\x01\x65\x03\x04\x02\x01\x04\x20" // without the parameters 05 00
		for _, wrong := range []string{
			"\x00\x02" + ff(0) + "\x00" + head + string(sum[:]),
			"\x00\x01" + ff(1) + "\x00\x00" + head + string(sum[:]),
			"\x00\x01" + ff(1) + "\x00" + head + string(sum[:]) + "\x00",
			"\x00\x01" + ff(4) + "\x00" + head + string(sum[:]) + "more",
			"\x00\x01" + ff(-2) + "\x00" + bare + string(sum[:]),
			"\x00\x01" + ff(-19) + "\x00" + string(sum[:]),
			"\x00\x01" + ff(0) + "\x00" + head + strings.Repeat("\x00", 32),
			"\x00\x01" + ff(-1) + head + string(sum[:]),
			"\x01" + ff(-1) + "\x00" + head + string(sum[:]),
		} {
			if keys.Verify(public, "text", wrong) {
				t.Errorf("modulus %x: Verify takes the block %x", n, wrong)
			}
		}
	}
}
