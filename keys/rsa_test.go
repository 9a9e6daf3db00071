package keys_test

import (
	"math/big"
	"math/rand"
	"strings"
	"testing"

	"guidepost/api"
	"guidepost/keys"
	"guidepost/number"
)

// ofBits is a number of just so many bits, as bytes, all of its bits 1.
func ofBits(bits uint) string {
	x := new(big.Int).Lsh(big.NewInt(1), bits)
	return string(x.Sub(x, big.NewInt(1)).Bytes())
}

// tip is the least number of so many bits, as bytes.
func tip(bits uint) string {
	return string(new(big.Int).Lsh(big.NewInt(1), bits-1).Bytes())
}

// long is an exponent whose length stands in two bytes.
func long(exponent string) string {
	return "\x00" + string([]byte{byte(len(exponent) >> 8), byte(len(exponent))}) + exponent
}

// brief is an exponent whose length stands in one.
func brief(exponent string) string {
	return string([]byte{byte(len(exponent))}) + exponent
}

// P6.2: keys that are ones, with both lengths' forms, and at both ends of the bits.
func TestRsa(t *testing.T) {
	least, most := ofBits(496), ofBits(2048)
	for _, c := range []struct{ head, e, n string }{
		{brief("\x03"), "\x03", least},
		{brief("\x03"), "\x03", most},
		{brief("\x03"), "\x03", tip(496)},
		{brief("\x03"), "\x03", tip(2048)},
		{brief("\x03"), "\x03", ofBits(497)},
		{brief("\x03"), "\x03", ofBits(2047)},
		{brief("\x01"), "\x01", least},
		{brief("\x01\x00\x01"), "\x01\x00\x01", ofBits(1024)},
		{brief("\x80\x00"), "\x80\x00", tip(777)},
		{brief(most[:255]), most[:255], least},
		{brief(ofBits(496)), least, least},
		{long("\x03"), "\x03", least},
		{long("\x01\x00\x01"), "\x01\x00\x01", most},
		{long(most[:255]), most[:255], most},
		{long(most), most, most},
		{long(most), most, least},
		{long(tip(2048)), tip(2048), tip(496)},
		{long(ofBits(2041)), ofBits(2041), least},
	} {
		e, n, err := keys.Rsa(c.head + c.n)
		if e.Bytes() != c.e || n.Bytes() != c.n || err != api.OK {
			t.Errorf("Rsa(%x %x) = %x, %x, %v", c.head, c.n, e.Bytes(), n.Bytes(), err)
		}
	}
}

// P6.2: all that is no key, one fault at a time.
func TestRsaOfWrongKeys(t *testing.T) {
	least, most := ofBits(496), ofBits(2048)
	for _, public := range []string{
		"", "\x00", "\x00\x00", "\x00\x01", "\x00\x00\x00", "\x00\x00\x01", "\x00\x00\x01\x03", // nothing, or no modulus
		"\x01", "\x01\x03", "\x02\x03", "\xff", "\xff\x03", "\x00\xff\xff", "\x00\xff\xff\x03",
		"\xff" + strings.Repeat("\x01", 254), "\xff" + strings.Repeat("\x01", 255), // the exponent is cut off; it is all
		"\x3f" + least, "\x3e" + least, // likewise
		"\x00\x00\x3f" + least, "\x00\x00\x3e" + least, "\x00\x01\x00" + least, "\x00\x3e\x00" + least,
		"\x00\x00\x00" + least, "\x00" + least, // an exponent of no bytes; one that is said to be too long
		brief("\x00") + least, brief("\x00\x03") + least, brief("\x00\x00\x03") + most, // a first byte 0
		long("\x00") + least, long("\x00\x03") + most, long("\x00"+most) + least, long("\x00"+most[1:]) + least,
		brief("\x03") + "\x00", brief("\x03") + "\x00" + least, brief("\x03") + "\x00" + most, brief("\x03") + "\x00" + most[1:],
		long("\x03") + "\x00" + least, brief("\x03") + strings.Repeat("\x00", 62),
		brief("\x03") + ofBits(495), brief("\x03") + tip(495), brief("\x03") + ofBits(488), brief("\x03") + "\xff", // too small
		brief("\x03") + strings.Repeat("\xff", 61),
		brief("\x03") + tip(2049), brief("\x03") + ofBits(2049), brief("\x03") + ofBits(4096), brief("\x03") + ofBits(4097), // too great
		brief("\x03") + strings.Repeat("\xff", 10000),
		long(tip(2049)) + least, long(ofBits(2049)) + most, long(ofBits(4096)) + most, long(ofBits(4097)) + most,
		long(strings.Repeat("\xff", 65535)) + least,
		long(tip(2049)) + ofBits(495), long("\x00") + tip(2049), // both are wrong
	} {
		e, n, err := keys.Rsa(public)
		if e != (number.Nat{}) || n != (number.Nat{}) || err != api.ErrKey {
			t.Errorf("Rsa(%x) = %x, %x, %v, want ErrKey", public, e.Bytes(), n.Bytes(), err)
		}
		if keys.Verify(public, "", "") || keys.Verify(public, "", least) {
			t.Errorf("Verify(%x) is true", public)
		}
	}
}

// slowRsa takes a key apart word by word of the promise: its exponent and modulus, or nothing.
func slowRsa(public []byte) (e, n []byte) {
	if len(public) < 1 {
		return nil, nil
	}
	many, at := int(public[0]), 1
	if many == 0 {
		if len(public) < 3 {
			return nil, nil
		}
		many, at = int(public[1])*256+int(public[2]), 3
	}
	if many == 0 || len(public) <= at+many {
		return nil, nil
	}
	e, n = public[at:at+many], public[at+many:]
	bits, most := new(big.Int).SetBytes(n).BitLen(), new(big.Int).SetBytes(e).BitLen()
	if e[0] == 0 || n[0] == 0 || bits < 496 || bits > 2048 || most > 2048 {
		return nil, nil
	}
	return e, n
}

// drawnPublic is something like a public key: lengths lie about the right ones.
func drawnPublic(r *rand.Rand) []byte {
	lengths := []int{0, 1, 2, 3, 5, 200, 255, 256, 257}
	exponent := make([]byte, lengths[r.Intn(len(lengths))])
	modulus := make([]byte, []int{0, 1, 61, 62, 63, 128, 255, 256, 257}[r.Intn(9)])
	r.Read(exponent)
	r.Read(modulus)
	many := len(exponent) + (r.Intn(8)+2)/9*(r.Intn(3)-1)
	out := []byte{byte(many)}
	if many > 255 || r.Intn(3) == 0 {
		out = []byte{0, byte(many >> 8), byte(many)}
	}
	out = append(append(out, exponent...), modulus...)
	if r.Intn(9) == 0 {
		out = out[:r.Intn(len(out)+1)]
	}
	return out
}

// P6.2: drawn keys, and what is nearly one, are taken apart as the promise says.
func TestRsaOfDrawnKeys(t *testing.T) {
	r := rand.New(rand.NewSource(62))
	right := 0
	for range 20000 {
		public := drawnPublic(r)
		e, n, err := keys.Rsa(string(public))
		slowE, slowN := slowRsa(public)
		want := api.ErrKey
		if slowN != nil {
			want = api.OK
			right++
		}
		if e.Bytes() != string(slowE) || n.Bytes() != string(slowN) || err != want {
			t.Fatalf("Rsa(%x) = %x, %x, %v, want %x, %x, %v", public, e.Bytes(), n.Bytes(), err, slowE, slowN, want)
		}
	}
	if right < 2000 || right > 18000 {
		t.Errorf("%d of the drawn keys are right", right)
	}
}
