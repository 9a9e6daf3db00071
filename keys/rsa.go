package keys

import (
	"strings"

	"guidepost/api"
	"guidepost/number"
)

// leastBits and mostBits are how many bits a modulus has: with fewer of them there is no room for what is signed.
const (
	leastBits = 496
	mostBits  = 2048
)

// sha256Head is what PKCS #1 puts ahead of the digest, so that the sign tells which one it is.
const sha256Head = "\x30\x31\x30\x0d\x06\x09\x60\x86\x48\x01\x65\x03\x04\x02\x01\x05\x00\x04\x20"

// split is a public key's exponent and modulus. Where the length, or the exponent, is cut off both are empty, which is as wrong.
func split(public string) (exponent, modulus string) {
	if public == "" {
		return "", ""
	}
	many, rest := int(public[0]), public[1:]
	if many == 0 && len(rest) >= 2 {
		many, rest = int(rest[0])<<8|int(rest[1]), rest[2:]
	}
	if many > len(rest) {
		return "", ""
	}
	return rest[:many], rest[many:]
}

// numberOf is the number of a key's part, if the part is as short as it can be and has least to mostBits bits.
func numberOf(part string, least int) (number.Nat, bool) {
	if part == "" || part[0] == 0 {
		return number.Nat{}, false
	}
	a, e := number.Of(part)
	if e != api.OK || a.Bits() < least || a.Bits() > mostBits {
		return number.Nat{}, false
	}
	return a, true
}

// open is what was signed, in as many bytes as the sign has; a sign that is not less than the modulus is none. The key is right, and the sign no longer than its modulus, so that nothing here is too long.
func open(sign string, e, n number.Nat) (string, bool) {
	s, _ := number.Of(sign)
	if s.Cmp(n) >= 0 {
		return "", false
	}
	power, _ := s.Pow(e, n)
	opened, _ := power.Wide(len(sign))
	return opened, true
}

// padded is what a right sign opens to: the digest behind its head, and bytes FF up to many in all.
func padded(sum string, many int) string {
	const first, between = "\x00\x01", "\x00"
	rest := between + sha256Head + sum
	return first + strings.Repeat("\xff", many-len(first)-len(rest)) + rest
}
