package rrset_test

import (
	"crypto"
	"crypto/ecdsa"
	"crypto/elliptic"
	"crypto/sha256"
	"encoding/asn1"
	"encoding/binary"
	"math/big"
	"math/rand"
	"slices"
	"strconv"
	"strings"
	"testing"

	"guidepost/api"
	"guidepost/data"
	"guidepost/keys"
)

const (
	half  = 1 << 31
	whole = 1 << 32
	other = 65280 // a type of which nothing is known
)

// named is the name of these labels.
func named(labels ...string) string {
	var n strings.Builder
	for _, label := range labels {
		n.WriteByte(byte(len(label)))
		n.WriteString(label)
	}
	return n.String() + "\x00"
}

var (
	root = named()
	x    = named("x")
	www  = named("www", "x")
)

// longest is a name of 255 bytes, 127 labels; with a byte more there is none.
var longest = strings.Repeat("\x01a", 127) + "\x00"

// wrongNames are no names.
func wrongNames() []string {
	return []string{
		"", "x", "\x01", "\x01a", "\x02a\x00", "\x01a\x00\x00", "\x00\x00", named(strings.Repeat("a", 64)),
		strings.Repeat("\x01a", 128) + "\x00", "\x02aa" + longest[2:], "www.x.",
	}
}

// address is the data of A with this number.
func address(i int) string {
	return string(binary.BigEndian.AppendUint32(nil, uint32(i)))
}

// addresses are data of A, so many.
func addresses(count int) []string {
	var list []string
	for i := range count {
		list = append(list, address(i))
	}
	return list
}

// record is one of class IN.
func record(n string, kind, ttl int, d string) api.Record {
	return api.Record{Name: n, Type: kind, Class: api.IN, TTL: ttl, Data: d}
}

// set is one of class IN.
func set(n string, kind, ttl int, d ...string) api.Set {
	return api.Set{Name: n, Type: kind, Class: api.IN, TTL: ttl, Data: d}
}

// dataOf are the data of a signature.
func dataOf(t *testing.T, g api.Sig) string {
	t.Helper()
	d, e := data.OfSig(g)
	if e != api.OK {
		t.Fatalf("%+v is no signature", g)
	}
	return d
}

// sigOf are data of a signature of this type that some other byte tells from others.
func sigOf(t *testing.T, covered, which int) string {
	return dataOf(t, api.Sig{Covered: covered, Alg: 8, Labels: 1, TTL: 9, End: 8, Begin: 7, Tag: 6, Signer: x, Sign: "s" + strconv.Itoa(which)})
}

// sigsOf are so many of them.
func sigsOf(t *testing.T, covered, count int) []string {
	var list []string
	for i := range count {
		list = append(list, sigOf(t, covered, i))
	}
	return list
}

// small is a text with small letters, the length bytes of names in it as they are (none of them is a letter).
func small(s string) string {
	b := []byte(s)
	for i, c := range b {
		if 'A' <= c && c <= 'Z' {
			b[i] = c | 32
		}
	}
	return string(b)
}

// textSigned is what the document says is signed: the name and the data told by whoever calls, in the right form and order.
func textSigned(g api.Sig, n string, kind, class int, list ...string) string {
	b := binary.BigEndian.AppendUint16(nil, uint16(g.Covered))
	b = append(b, byte(g.Alg), byte(g.Labels))
	b = binary.BigEndian.AppendUint32(b, uint32(g.TTL))
	b = binary.BigEndian.AppendUint32(b, uint32(g.End))
	b = binary.BigEndian.AppendUint32(b, uint32(g.Begin))
	b = binary.BigEndian.AppendUint16(b, uint16(g.Tag))
	b = append(b, small(g.Signer)...)
	for _, d := range list {
		b = append(b, n...)
		b = binary.BigEndian.AppendUint16(b, uint16(kind))
		b = binary.BigEndian.AppendUint16(b, uint16(class))
		b = binary.BigEndian.AppendUint32(b, uint32(g.TTL))
		b = binary.BigEndian.AppendUint16(b, uint16(len(d)))
		b = append(b, d...)
	}
	return string(b)
}

// signer is a key with its secret.
type signer struct {
	key  api.Key
	sign func(text string) string
}

// data are the key's data.
func (s signer) data(t *testing.T) string {
	t.Helper()
	d, e := data.OfKey(s.key)
	if e != api.OK {
		t.Fatalf("%+v is no key", s.key)
	}
	return d
}

// tag is the key's tag.
func (s signer) tag(t *testing.T) int {
	t.Helper()
	tag, e := keys.Tag(s.data(t))
	if e != api.OK {
		t.Fatal(e)
	}
	return tag
}

// of are the data of g, signed, as a signature of a text that begins with those of g.
func (s signer) of(t *testing.T, g api.Sig, text string) string {
	t.Helper()
	g.Sign = s.sign(text)
	return dataOf(t, g)
}

// with is the signer with another key of the same secret.
func (s signer) with(change func(*api.Key)) signer {
	change(&s.key)
	return s
}

// rsaSigner is a key of RSA of 512 bits.
func rsaSigner(seed int64) signer {
	r, three, one := rand.New(rand.NewSource(seed)), big.NewInt(3), big.NewInt(1)
	prime := func() *big.Int {
		for {
			p := new(big.Int).Rand(r, new(big.Int).Lsh(one, 254))
			p.SetBit(p.SetBit(p.SetBit(p, 255, 1), 254, 1), 0, 1)
			if p.ProbablyPrime(10) && new(big.Int).Mod(p, three).Int64() == 2 {
				return p
			}
		}
	}
	p, q := prime(), prime()
	n := new(big.Int).Mul(p, q)
	secret := new(big.Int).ModInverse(three, new(big.Int).Mul(p.Sub(p, one), q.Sub(q, one)))
	sign := func(text string) string {
		sum := sha256.Sum256([]byte(text))
		block := append([]byte("\x00\x01"), slices.Repeat([]byte{0xff}, 10)...)
		block = append(block, "\x00\x30\x31\x30\x0d\x06\x09\x60\x86\x48\x01\x65\x03\x04\x02\x01\x05\x00\x04\x20"...)
		b := new(big.Int).SetBytes(append(block, sum[:]...))
		return string(b.Exp(b, secret, n).FillBytes(make([]byte, 64)))
	}
	return signer{api.Key{Flags: 257, Protocol: 3, Alg: 8, Public: "\x01\x03" + string(n.Bytes())}, sign}
}

// curveSigner is a key of the curve P-256.
func curveSigner(t *testing.T, secret byte) signer {
	t.Helper()
	key, err := ecdsa.ParseRawPrivateKey(elliptic.P256(), slices.Repeat([]byte{secret}, 32))
	if err != nil {
		t.Fatal(err)
	}
	point, err := key.PublicKey.Bytes()
	if err != nil {
		t.Fatal(err)
	}
	sign := func(text string) string {
		sum := sha256.Sum256([]byte(text))
		der, err := key.Sign(nil, sum[:], crypto.SHA256)
		if err != nil {
			t.Fatal(err)
		}
		var pair struct{ R, S *big.Int }
		if _, err := asn1.Unmarshal(der, &pair); err != nil {
			t.Fatal(err)
		}
		return string(pair.R.FillBytes(make([]byte, 32))) + string(pair.S.FillBytes(make([]byte, 32)))
	}
	return signer{api.Key{Flags: 256, Protocol: 3, Alg: 13, Public: string(point[1:])}, sign}
}
