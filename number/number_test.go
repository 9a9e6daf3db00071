package number_test

import (
	"math"
	"math/big"
	"math/rand"
	"strings"
	"testing"

	"guidepost/api"
	"guidepost/number"
)

// of is the number of bytes that must have one.
func of(t *testing.T, bytes string) number.Nat {
	t.Helper()
	a, e := number.Of(bytes)
	if e != api.OK {
		t.Fatalf("Of(%x): %v", bytes, e)
	}
	return a
}

// natOf is a number of the library's kind as one of ours, bigOf the way back.
func natOf(t *testing.T, x *big.Int) number.Nat {
	t.Helper()
	return of(t, string(x.Bytes()))
}

func bigOf(a number.Nat) *big.Int {
	return new(big.Int).SetBytes([]byte(a.Bytes()))
}

// two is 2 to the power of bits, and more beside it.
func two(bits uint, more int64) *big.Int {
	x := new(big.Int).Lsh(big.NewInt(1), bits)
	return x.Add(x, big.NewInt(more))
}

// drawn is a number of at most so many digits. Many of its digits are the least and the greatest ones, where carries run far and guesses go wrong.
func drawn(r *rand.Rand, most int) *big.Int {
	x := new(big.Int)
	for range r.Intn(most + 1) {
		digit := int64(r.Uint32())
		switch r.Intn(8) {
		case 0, 1:
			digit = 0
		case 2, 3:
			digit = math.MaxUint32
		case 4:
			digit = 1 << 31
		case 5:
			digit = int64(r.Intn(3))
		}
		x.Lsh(x, 32).Or(x, big.NewInt(digit))
	}
	return x
}

// edges are the numbers about which digits, bytes and limits begin and end.
func edges() []*big.Int {
	list := []*big.Int{big.NewInt(0), big.NewInt(1), big.NewInt(2), big.NewInt(3)}
	for _, bits := range []uint{7, 8, 31, 32, 33, 63, 64, 65, 96, 2047, 2048, 4064, 4095} {
		list = append(list, two(bits, -1), two(bits, 0), two(bits, 1))
	}
	return append(list, two(4096, -2), two(4096, -1))
}

// sameError wants this error and beside it the number 0.
func sameError(t *testing.T, what string, got number.Nat, e, want api.Errno) {
	t.Helper()
	if e != want || got != (number.Nat{}) {
		t.Errorf("%s: %x, %v, not %v", what, got.Bytes(), e, want)
	}
}

// P5.1: noughts ahead count nothing, no bytes are 0, and the least bytes come back.
func TestOfAndBytes(t *testing.T) {
	for _, x := range []struct {
		in, out string
		bits    int
	}{
		{"", "", 0},
		{"\x00", "", 0},
		{"\x00\x00\x00\x00\x00", "", 0},
		{"\x01", "\x01", 1},
		{"\x02", "\x02", 2},
		{"\x7f", "\x7f", 7},
		{"\x80", "\x80", 8},
		{"\x00\x01\x00", "\x01\x00", 9},
		{"\xff\xff\xff", "\xff\xff\xff", 24},
		{"\x01\x02\x03\x04", "\x01\x02\x03\x04", 25},
		{"\x80\x00\x00\x00", "\x80\x00\x00\x00", 32},
		{"\x01\x00\x00\x00\x00", "\x01\x00\x00\x00\x00", 33},
		{"\x00\x09\x08\x07\x06\x05\x04\x03\x02\x01", "\x09\x08\x07\x06\x05\x04\x03\x02\x01", 68},
	} {
		a := of(t, x.in)
		if a.Bytes() != x.out || a.Bits() != x.bits {
			t.Errorf("%x: %x of %d bits, not %x of %d", x.in, a.Bytes(), a.Bits(), x.out, x.bits)
		}
	}
}

// P5.1: 4096 bits are a number, whatever noughts stand ahead; one more is too many.
func TestOfAtTheLimit(t *testing.T) {
	for _, s := range []string{
		strings.Repeat("\xff", 512),
		"\x80" + strings.Repeat("\x00", 511),
		strings.Repeat("\x00", 10000) + strings.Repeat("\xa5", 512),
	} {
		least := strings.TrimLeft(s, "\x00")
		if a := of(t, s); a.Bits() != 4096 || a.Bytes() != least {
			t.Errorf("%d bytes: %d bits, %x", len(s), a.Bits(), a.Bytes())
		}
	}
	if a := of(t, "\x7f"+strings.Repeat("\xff", 511)); a.Bits() != 4095 {
		t.Errorf("%d bits, not 4095", a.Bits())
	}
	for _, s := range []string{
		"\x01" + strings.Repeat("\x00", 512),
		strings.Repeat("\xff", 513),
		"\x00\x01" + strings.Repeat("\x00", 512),
		strings.Repeat("\x01", 5000),
	} {
		a, e := number.Of(s)
		sameError(t, "a number that is too long", a, e, api.ErrLong)
	}
}

// P5.1: a small number is one of the same bytes.
func TestSmall(t *testing.T) {
	for n, want := range map[uint64]string{
		0:                  "",
		1:                  "\x01",
		255:                "\xff",
		256:                "\x01\x00",
		math.MaxUint32:     "\xff\xff\xff\xff",
		1 << 32:            "\x01\x00\x00\x00\x00",
		0x0102030405060708: "\x01\x02\x03\x04\x05\x06\x07\x08",
		1 << 63:            "\x80\x00\x00\x00\x00\x00\x00\x00",
		math.MaxUint64:     "\xff\xff\xff\xff\xff\xff\xff\xff",
	} {
		a := number.Small(n)
		if a.Bytes() != want || a != of(t, want) || a.Bits() != new(big.Int).SetUint64(n).BitLen() {
			t.Errorf("%d: %x of %d bits", n, a.Bytes(), a.Bits())
		}
	}
}

// The zero value is 0.
func TestZeroValue(t *testing.T) {
	var a number.Nat
	if a.Bytes() != "" || a.Bits() != 0 || a.Cmp(number.Small(0)) != 0 {
		t.Errorf("%x of %d bits", a.Bytes(), a.Bits())
	}
	if s, e := a.Add(number.Small(5)); e != api.OK || s.Cmp(number.Small(5)) != 0 {
		t.Errorf("0 + 5: %x, %v", s.Bytes(), e)
	}
	if _, _, e := number.Small(5).Div(a); e != api.ErrArg {
		t.Errorf("5 / 0: %v", e)
	}
}

// P5.1: just as many bytes, with noughts ahead; fewer than it has are too few.
func TestWide(t *testing.T) {
	for _, x := range []struct {
		in   string
		many int
		want string
		e    api.Errno
	}{
		{"\x01\x02", 4, "\x00\x00\x01\x02", api.OK},
		{"\x01\x02", 3, "\x00\x01\x02", api.OK},
		{"\x01\x02", 2, "\x01\x02", api.OK},
		{"\x01\x02", 1, "", api.ErrLong},
		{"\x01\x02", 0, "", api.ErrLong},
		{"\x01\x02", -1, "", api.ErrArg},
		{"\x01\x02", math.MinInt, "", api.ErrArg},
		{"", 0, "", api.OK},
		{"", 1, "\x00", api.OK},
		{"", 5, "\x00\x00\x00\x00\x00", api.OK},
		{"", -1, "", api.ErrArg},
		{"\x80\x00\x00\x00", 3, "", api.ErrLong},
		{"\x80\x00\x00\x00", 5, "\x00\x80\x00\x00\x00", api.OK},
		{strings.Repeat("\xff", 512), 512, strings.Repeat("\xff", 512), api.OK},
		{strings.Repeat("\xff", 512), 511, "", api.ErrLong},
		{strings.Repeat("\xff", 512), 600, strings.Repeat("\x00", 88) + strings.Repeat("\xff", 512), api.OK},
	} {
		if got, e := of(t, x.in).Wide(x.many); got != x.want || e != x.e {
			t.Errorf("%x in %d bytes: %x, %v, not %x, %v", x.in, x.many, got, e, x.want, x.e)
		}
	}
}

// P1: more bytes than any answer may have make no panic.
func TestWideBeyondAllBounds(t *testing.T) {
	for _, many := range []int{1 << 31, 1 << 40, math.MaxInt} {
		if got, e := number.Small(1).Wide(many); got != "" || e != api.ErrArg {
			t.Errorf("%d: %d bytes, %v", many, len(got), e)
		}
	}
}

// P5.4: the bytes of a number are that number.
func TestOfOfBytes(t *testing.T) {
	r := rand.New(rand.NewSource(51))
	list := edges()
	for range 500 {
		list = append(list, drawn(r, 128))
	}
	for _, x := range list {
		a := natOf(t, x)
		if a.Bytes() != string(x.Bytes()) || a.Bits() != x.BitLen() || of(t, a.Bytes()) != a {
			t.Errorf("%x: %x of %d bits", x, a.Bytes(), a.Bits())
		}
		wide, e := a.Wide(515)
		if e != api.OK || len(wide) != 515 || of(t, wide) != a {
			t.Errorf("%x: %x, %v", x, wide, e)
		}
	}
}
