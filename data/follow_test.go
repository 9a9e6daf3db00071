package data_test

import (
	"encoding/base32"
	"encoding/hex"
	"math/rand"
	"net/netip"
	"reflect"
	"slices"
	"strings"
	"testing"

	"guidepost/api"
	"guidepost/data"
)

// drawString is up to so many bytes, awkward ones among them.
func drawString(r *rand.Rand, least, most int) string {
	const awkward = "\x00\x01 \"\\.aAzZ09-#~\x1f\x7f\x80\xff"
	s := make([]byte, least+r.Intn(most-least+1))
	for i := range s {
		s[i] = byte(r.Intn(256))
		if r.Intn(2) == 0 {
			s[i] = awkward[r.Intn(len(awkward))]
		}
	}
	return string(s)
}

func drawName(r *rand.Rand) string {
	var labels []string
	for range r.Intn(4) {
		labels = append(labels, drawString(r, 1, 5))
	}
	return wire(labels...)
}

func drawTypes(r *rand.Rand) []int {
	var types []int
	for range r.Intn(12) {
		kind := r.Intn(60)
		if r.Intn(3) == 0 {
			kind = r.Intn(1 << 16)
		}
		if r.Intn(6) == 0 {
			kind = kind | 255
		}
		types = append(types, kind)
	}
	slices.Sort(types)
	return noneIsNil(slices.Compact(types))
}

func drawX(r *rand.Rand, kind int) any {
	u8, u16, u32 := func() int { return r.Intn(1 << 8) }, func() int { return r.Intn(1 << 16) }, func() int { return r.Intn(1 << 32) }
	switch kind {
	case api.TypeSOA:
		return api.Soa{Primary: drawName(r), Mail: drawName(r), Serial: u32(), Refresh: u32(), Retry: u32(), Expire: u32(), Minimum: u32()}
	case api.TypeRRSIG:
		return api.Sig{Covered: u16(), Alg: u8(), Labels: u8(), TTL: u32(), End: u32(), Begin: u32(), Tag: u16(), Signer: drawName(r), Sign: drawString(r, 1, 20)}
	case api.TypeDNSKEY:
		return api.Key{Flags: u16(), Protocol: u8(), Alg: u8(), Public: drawString(r, 1, 20)}
	case api.TypeDS:
		return api.Ds{Tag: u16(), Alg: u8(), Kind: u8(), Digest: drawString(r, 1, 20)}
	case api.TypeNSEC:
		return api.Nsec{Next: drawName(r), Types: drawTypes(r)}
	}
	return api.Nsec3{Alg: u8(), Flags: u8(), Rounds: u16(), Salt: drawString(r, 0, 9), Next: drawString(r, 1, 25), Types: drawTypes(r)}
}

// drawData are right data.
func drawData(r *rand.Rand, kind int) string {
	switch kind {
	case api.TypeA:
		return drawString(r, 4, 4)
	case api.TypeAAAA:
		return drawString(r, 16, 16)
	case api.TypeNS, api.TypeCNAME, api.TypeDNAME:
		return drawName(r)
	case api.TypeMX:
		return drawString(r, 2, 2) + drawName(r)
	case api.TypeTXT:
		d := ""
		for range 1 + r.Intn(3) {
			s := drawString(r, 0, 7)
			d += string([]byte{byte(len(s))}) + s
		}
		return d
	}
	if slices.Contains(withX(), kind) {
		d, _ := put(drawX(r, kind))
		return d
	}
	return drawString(r, 0, 9)
}

// P2.5, T6
func TestThereAndBack(t *testing.T) {
	r := rand.New(rand.NewSource(1))
	for _, kind := range append(known(), other, api.TypeOPT, api.TypeANY) {
		for range 1500 {
			d := drawData(r, kind)
			text, e := data.Text(kind, d)
			if !data.Right(kind, d) || e != api.OK {
				t.Fatalf("%q of type %d: %v", d, kind, e)
			}
			if got, e := data.Read(kind, text); got != d || e != api.OK {
				t.Errorf("%q of type %d, told as %q, are %q, %v", d, kind, text, got, e)
			}
			for i := range len(text) {
				if text[i] < 32 || text[i] > 126 {
					t.Errorf("%q of type %d are told as %q", d, kind, text)
				}
			}
			if low := data.Lower(kind, d); data.Lower(kind, low) != low || !data.Right(kind, low) || !strings.EqualFold(text, must(data.Text(kind, low))) {
				t.Errorf("%q of type %d is %q with small letters", d, kind, low)
			}
		}
	}
}

func must(text string, _ api.Errno) string {
	return text
}

// P2.5
func TestHaveAndBack(t *testing.T) {
	r := rand.New(rand.NewSource(2))
	for _, kind := range withX() {
		for range 1500 {
			x := drawX(r, kind)
			d, e := put(x)
			again, te := take(kind, d)
			if e != api.OK || te != api.OK || !reflect.DeepEqual(again, x) {
				t.Errorf("%+v: %q, %v; %+v, %v", x, d, e, again, te)
			}
		}
	}
}

// P2.5: of a text that is somehow changed there are data just if it is their text; of data that are changed what they have, if
// they have it, makes them again. P1, P2: whatever comes is answered.
func TestChanged(t *testing.T) {
	r := rand.New(rand.NewSource(3))
	for _, kind := range append(known(), other) {
		for range 3000 {
			d := drawData(r, kind)
			text, _ := data.Text(kind, d)
			checkText(t, kind, changed(r, text))
			checkData(t, kind, changed(r, d))
		}
	}
}

// changed is s with a byte more, less, or another one.
func changed(r *rand.Rand, s string) string {
	const few = " 01.\"\\AaFfvw-:\x00\x01\x40\xff"
	at := r.Intn(len(s) + 1)
	put := string(few[r.Intn(len(few))])
	switch {
	case r.Intn(3) == 0 || at == len(s):
		return s[:at] + put + s[at:]
	case r.Intn(2) == 0:
		return s[:at] + s[at+1:]
	}
	return s[:at] + put + s[at+1:]
}

func checkText(t *testing.T, kind int, text string) {
	d, e := data.Read(kind, text)
	if e != api.OK {
		if d != "" || e != api.ErrText {
			t.Errorf("Read(%d, %q) = %q, %v", kind, text, d, e)
		}
		return
	}
	if again, e := data.Text(kind, d); again != text || e != api.OK {
		t.Errorf("%q of type %d is told again as %q, %v", text, kind, again, e)
	}
}

func checkData(t *testing.T, kind int, d string) {
	right := data.Right(kind, d)
	text, e := data.Text(kind, d)
	if right != (e == api.OK) || e != api.OK && (text != "" || e != api.ErrData) {
		t.Errorf("Text(%d, %q) = %q, %v", kind, d, text, e)
	}
	if got, e := data.Read(kind, text); right && (got != d || e != api.OK) {
		t.Errorf("Read(%d, %q) = %q, %v", kind, text, got, e)
	}
	if !right && (len(data.Names(kind, d)) != 0 || data.Lower(kind, d) != d) {
		t.Errorf("%q of type %d: %q, %q", d, kind, data.Names(kind, d), data.Lower(kind, d))
	}
	if !slices.Contains(withX(), kind) {
		return
	}
	x, e := take(kind, d)
	if right != (e == api.OK) || !right && (e != api.ErrData || !reflect.ValueOf(x).IsZero()) {
		t.Errorf("%q of type %d has %+v, %v", d, kind, x, e)
	}
	if again, e := put(x); right && (again != d || e != api.OK) {
		t.Errorf("%q of type %d is %q, %v again", d, kind, again, e)
	}
}

// P2.2: addresses, hex and base 32 as others tell them.
func TestAsOthersTell(t *testing.T) {
	r := rand.New(rand.NewSource(4))
	digits := base32.NewEncoding("0123456789abcdefghijklmnopqrstuv").WithPadding(base32.NoPadding)
	for range 1000 {
		four, sixteen, some := drawString(r, 4, 4), drawString(r, 16, 16), drawString(r, 1, 40)
		for _, c := range []pair{
			{api.TypeA, four, netip.AddrFrom4([4]byte([]byte(four))).String()},
			{other, some, `\# ` + decimal(len(some)) + " " + hex.EncodeToString([]byte(some))},
			{api.TypeNSEC3, "\x01\x00\x00\x00\x00" + string([]byte{byte(len(some))}) + some, "1 0 0 - " + digits.EncodeToString([]byte(some))},
		} {
			if text, e := data.Text(c.kind, c.d); text != c.text || e != api.OK {
				t.Errorf("Text(%d, %q) = %q, %v, not %q", c.kind, c.d, text, e, c.text)
			}
		}
		text, _ := data.Text(api.TypeAAAA, sixteen)
		if a, err := netip.ParseAddr(text); err != nil || a.As16() != [16]byte([]byte(sixteen)) {
			t.Errorf("%q is told as %q", sixteen, text)
		}
	}
}

func decimal(n int) string {
	if n < 10 {
		return string([]byte{'0' + byte(n)})
	}
	return decimal(n/10) + decimal(n%10)
}
