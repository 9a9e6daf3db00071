package keys_test

import (
	"encoding/base64"
	"encoding/hex"
	"math"
	"math/rand"
	"strings"
	"testing"

	"guidepost/api"
	"guidepost/keys"
)

// short are data of a key whose public part has just two bytes.
const short = "\x01\x00\x03\x08\x01\x02"

// keyData are data of DNSKEY, the public key told in base 64.
func keyData(t *testing.T, head, public string) string {
	t.Helper()
	b, err := base64.StdEncoding.DecodeString(strings.Join(strings.Fields(public), ""))
	if err != nil {
		t.Fatal(err)
	}
	return head + string(b)
}

// bytesOf are bytes told in hex.
func bytesOf(t *testing.T, text string) string {
	t.Helper()
	b, err := hex.DecodeString(text)
	if err != nil {
		t.Fatal(err)
	}
	return string(b)
}

// exampleKey is the key of which RFC 4034 (5.4) and RFC 4509 (2.3) tell the tag and both digests.
func exampleKey(t *testing.T) string {
	return keyData(t, "\x01\x00\x03\x05", `
		AQOeiiR0GOMYkDshWoSKz9XzfwJr1AYtsmx3TGkJaNXVbfi/2pHm822aJ5iI9BMzNXxeYCmZ
		DRD99WYwYqUSdjMmmAphXdvxegXd/M5+X7OrzKBaMbCVdFLUUh6DhweJBjEVv5f2wwjM9Xzc
		nOf+EPbtG9DMBmADjFDc2w/rljwvFw==`)
}

// rootKey is the root's key of 2017.
func rootKey(t *testing.T) string {
	return keyData(t, "\x01\x01\x03\x08", `
		AwEAAaz/tAm8yTn4Mfeh5eyI96WSVexTBAvkMgJzkKTOiW1vkIbzxeF3+/4RgWOq7HrxRixH
		lFlExOLAJr5emLvN7SWXgnLh4+B5xQlNVz8Og8kvArMtNROxVQuCaSnIDdD5LKyWbRd2n9WG
		e2R8PzgCmr3EgVLrjyBxWezF0jLHwVN8efS3rCj/EWgvIWgb9tarpVUDK/b58Da+sqqls3eN
		buv7pr+eoZG+SrDK6nWeL3c6H5Apxz7LjVc1uTIdsIXxuOLYA4/ilBmSVIzuDWfdRUfhHdY6
		+cn8HFRm+2hM8AnXGXws9555KrUB5qihylGa8subX2Nn6UwNR1AkUTV74bU=`)
}

const exampleOwner = "\x05dskey\x07example\x03com\x00"

// wrongData are data that are none of DNSKEY: they end ahead of the public key, or are too long.
func wrongData() []string {
	return []string{"", "\x01", "\x01\x00", "\x01\x00\x03", "\x01\x00\x03\x08", strings.Repeat("\x01", 2001)}
}

// wrongNames are owners that are no names.
func wrongNames() []string {
	return []string{
		"", "x", "\x01", "\x01a", "\x02a\x00", "\x01a\x00\x00", "\x00\x00", "\x40" + strings.Repeat("a", 64) + "\x00",
		strings.Repeat("\x01a", 127) + "\x01", strings.Repeat("\x01a", 128) + "\x00", "example.",
	}
}

// P6.1: tags of keys that are told elsewhere, and about the carries.
func TestTag(t *testing.T) {
	const head = "\x01\x00\x03\x08" // 1032, of 65536
	for _, c := range []struct {
		d    string
		want int
	}{
		{"\x01\x00\x03\x08\x01", 1288},
		{exampleKey(t), 60485},
		{rootKey(t), 20326},
		{head + "\x00", 1032},
		{head + "\x00\x01", 1033},
		{head + "\x01\x00", 1288},
		{head + "\xfb\xf7", 65535},               // the sum fills 16 bits
		{head + "\xfb\xf8", 1},                   // 65536, and its quotient
		{head + "\xff\xff\xfb\xf6", 65534},       // 131069 and 1
		{head + "\xff\xff\xfb\xf7", 65535},       // 131070 and 1
		{head + "\xff\xff\xfb\xf8", 0},           // 131071 and 1: the quotient's own carry is lost
		{head + "\xff\xff\xfb\xf9", 2},           // 131072 and 2
		{strings.Repeat("\xff", 2000), 65535},    // the greatest sum: 1000 times 65535
		{strings.Repeat("\xff\x00", 1000), 7140}, // 65280000 and 996
	} {
		if got, e := keys.Tag(c.d); got != c.want || e != api.OK {
			t.Errorf("Tag(%x) = %d, %v, want %d", c.d, got, e, c.want)
		}
	}
}

// P6.1: what is no key has no tag.
func TestTagOfWrongData(t *testing.T) {
	for _, d := range wrongData() {
		if got, e := keys.Tag(d); got != 0 || e != api.ErrData {
			t.Errorf("Tag(%x) = %d, %v, want ErrData", d, got, e)
		}
	}
}

// drawnKey are right data of DNSKEY, some of them with many bytes that carry.
func drawnKey(r *rand.Rand) string {
	d := make([]byte, 5+r.Intn(1996))
	r.Read(d)
	if r.Intn(2) == 0 {
		for i := range d {
			d[i] |= 0xf0
		}
	}
	return string(d)
}

// slowTag follows the promise word by word.
func slowTag(d string) int {
	sum := 0
	for i := 0; i < len(d); i++ {
		if i%2 == 0 {
			sum += int(d[i]) * 256
		} else {
			sum += int(d[i])
		}
	}
	return (sum + sum/65536) % 65536
}

// P6.1: Tag of drawn keys is the promise's sum.
func TestTagOfDrawnKeys(t *testing.T) {
	r := rand.New(rand.NewSource(61))
	for range 3000 {
		d := drawnKey(r)
		if got, e := keys.Tag(d); got != slowTag(d) || e != api.OK {
			t.Fatalf("Tag(%x) = %d, %v, want %d", d, got, e, slowTag(d))
		}
	}
}

// P6.1: digests that are told elsewhere; the owner's letters do not count, the key's do.
func TestDigestAndOf(t *testing.T) {
	const (
		one    = "2bb183af5f22588179a53b0a98631fad1a292118"
		two    = "d4b7d520e7bb5f0f67674a0cceb1e3e0614b93c4f9e99b8383f6a1e4469da50a"
		anchor = "e06d44b80b8f1d39a95c0b0d7c65d08458e880409bbc683457104237c7f8ec8d"
	)
	for _, c := range []struct {
		owner, d       string
		kind, tag, alg int
		sum            string
	}{
		{exampleOwner, exampleKey(t), 1, 60485, 5, one},
		{exampleOwner, exampleKey(t), 2, 60485, 5, two},
		{"\x05DSKEY\x07eXamPle\x03Com\x00", exampleKey(t), 1, 60485, 5, one},
		{"\x05dsKey\x07EXAMPLE\x03coM\x00", exampleKey(t), 2, 60485, 5, two},
		{"\x00", rootKey(t), 2, 20326, 8, anchor},
	} {
		sum := bytesOf(t, c.sum)
		if got, e := keys.Digest(c.kind, c.owner, c.d); got != sum || e != api.OK {
			t.Errorf("Digest(%d, %q) = %x, %v, want %s", c.kind, c.owner, got, e, c.sum)
		}
		want := api.Ds{Tag: c.tag, Alg: c.alg, Kind: c.kind, Digest: sum}
		if got, e := keys.Of(c.owner, c.d, c.kind); got != want || e != api.OK {
			t.Errorf("Of(%q, %d) = %v, %v, want %v", c.owner, c.kind, got, e, want)
		}
		if !keys.Fits(c.owner, c.d, want) {
			t.Errorf("Fits(%q, %v) is false", c.owner, want)
		}
	}
}

// P6.1: the Ds has the key's own Alg, whatever its other fields are.
func TestOfTakesAlg(t *testing.T) {
	for alg := range 256 {
		d := "\x12\x34\x56" + string([]byte{byte(alg)}) + "\x00"
		if x, e := keys.Of("\x00", d, 2); x.Alg != alg || x.Tag != slowTag(d) || x.Kind != 2 || e != api.OK {
			t.Errorf("Of(%x) = %v, %v", d, x, e)
		}
	}
}

// askAll asks Digest, Of and Fits of what one of them must not take.
func askAll(t *testing.T, kind int, owner, d string, want api.Errno) {
	t.Helper()
	if got, e := keys.Digest(kind, owner, d); got != "" || e != want {
		t.Errorf("Digest(%d, %q, %x) = %x, %v, want %v", kind, owner, d, got, e, want)
	}
	if got, e := keys.Of(owner, d, kind); got != (api.Ds{}) || e != want {
		t.Errorf("Of(%q, %x, %d) = %v, %v, want %v", owner, d, kind, got, e, want)
	}
	if keys.Fits(owner, d, api.Ds{Kind: kind}) {
		t.Errorf("Fits(%q, %x) of Kind %d is true", owner, d, kind)
	}
}

// P6.1: ErrArg ahead of ErrName ahead of ErrData, each alone and with what comes behind it.
func TestDigestErrors(t *testing.T) {
	for _, kind := range []int{0, 3, -1, -2, 4, 257, 258, 1 << 16, 1<<16 + 1, 1<<32 + 1, 1<<32 + 2, math.MaxInt, math.MinInt} {
		askAll(t, kind, "\x07example\x00", short, api.ErrArg)
		askAll(t, kind, "x", short, api.ErrArg)
		askAll(t, kind, "\x00", "", api.ErrArg)
		askAll(t, kind, "", "", api.ErrArg)
	}
	for _, kind := range []int{1, 2} {
		for _, owner := range wrongNames() {
			askAll(t, kind, owner, short, api.ErrName)
			askAll(t, kind, owner, "", api.ErrName)
		}
		for _, d := range wrongData() {
			askAll(t, kind, "\x07example\x00", d, api.ErrData)
		}
	}
	if x, e := keys.Of("\x07example\x00", short, 0); x != (api.Ds{}) || keys.Fits("\x07example\x00", short, x) {
		t.Error(x, e)
	}
}

// P6.1: the longest owner and the longest key have a digest.
func TestDigestOfTheGreatest(t *testing.T) {
	owner := strings.Repeat("\x01A", 127) + "\x00"
	d := strings.Repeat("A", 2000)
	for _, kind := range []int{1, 2} {
		x, e := keys.Of(owner, d, kind)
		small, e2 := keys.Of(strings.ToLower(owner), d, kind)
		if e != api.OK || e2 != api.OK || x != small || len(x.Digest) != []int{0, 20, 32}[kind] {
			t.Error(kind, x, e, small, e2)
		}
		if keys.Fits(owner, strings.ToLower(d), x) {
			t.Error("the key's own letters do not count")
		}
	}
}

// P6.1: a Ds that is another one in just one thing does not fit.
func TestFits(t *testing.T) {
	const owner = "\x03Www\x07example\x00"
	for _, kind := range []int{1, 2} {
		x, e := keys.Of(owner, short, kind)
		if e != api.OK || !keys.Fits(owner, short, x) || !keys.Fits("\x03wWW\x07EXAMPLE\x00", short, x) {
			t.Fatal(x, e)
		}
		tag, far, alg := x, x, x
		tag.Tag ^= 1
		far.Tag += 65536
		alg.Alg ^= 1
		cases := []api.Ds{tag, far, alg, {}}
		for _, k := range []int{-1, 0, 3 - kind, 3, kind + 256} {
			other := x
			other.Kind = k
			cases = append(cases, other)
		}
		for _, digest := range []string{"", x.Digest + "\x00", "\x00" + x.Digest, x.Digest[1:], x.Digest[:len(x.Digest)-1]} {
			other := x
			other.Digest = digest
			cases = append(cases, other)
		}
		for i := range len(x.Digest) {
			other := x
			other.Digest = turned(x.Digest, i)
			cases = append(cases, other)
		}
		for _, c := range cases {
			if keys.Fits(owner, short, c) {
				t.Errorf("Fits(%v), of %v, is true", c, x)
			}
		}
		for _, other := range []string{"\x03www\x07exampl\x00", "\x07example\x00", "\x00", "\x03ww", ""} {
			if keys.Fits(other, short, x) {
				t.Errorf("Fits(%q) is true", other)
			}
		}
	}
}

// turned are the bytes with one bit of one of them turned.
func turned(s string, at int) string {
	b := []byte(s)
	b[at] ^= 1 << (at % 8)
	return string(b)
}

// P6.4: keys that differ in one byte have other digests, and so other Ds.
func TestDigestsDiffer(t *testing.T) {
	r := rand.New(rand.NewSource(64))
	for range 20 {
		d := drawnKey(r)
		d = d[:min(len(d), 64)]
		for _, kind := range []int{1, 2} {
			sum, _ := keys.Digest(kind, exampleOwner, d)
			x, e := keys.Of(exampleOwner, d, kind)
			if e != api.OK || x.Digest != sum {
				t.Fatal(x, e)
			}
			for i := range len(d) {
				other, e := keys.Digest(kind, exampleOwner, turned(d, i))
				if e != api.OK || other == sum || keys.Fits(exampleOwner, turned(d, i), x) {
					t.Errorf("Digest(%d) of %x and %x: %x, %v", kind, d, turned(d, i), other, e)
				}
			}
		}
	}
}
