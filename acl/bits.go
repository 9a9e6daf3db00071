package acl

import "guidepost/api"

// Right tells whether an address is one.
func Right(a api.Addr) bool {
	return a.V6 || a.Hi == 0 && a.Lo>>32 == 0
}

// Holds tells whether an address is of a prefix.
func Holds(p api.Prefix, a api.Addr) bool {
	return rightPrefix(p) && Right(a) && p.Addr.V6 == a.V6 && first(a, p.Bits) == p.Addr
}

func rightPrefix(p api.Prefix) bool {
	return Right(p.Addr) && p.Bits >= 0 && p.Bits <= width(p.Addr) && first(p.Addr, p.Bits) == p.Addr
}

// width is how many bits an address has.
func width(a api.Addr) int {
	if a.V6 {
		return 128
	}
	return 32
}

// first is an address with its first bits alone: 0 in the place of all others.
func first(a api.Addr, bits int) api.Addr {
	rest := width(a) - bits
	return api.Addr{V6: a.V6, Hi: cleared(a.Hi, max(rest-64, 0)), Lo: cleared(a.Lo, rest)}
}

// cleared is a word whose lowest bits are 0; shifts by 64 and more leave none of it.
func cleared(word uint64, bits int) uint64 {
	return word >> bits << bits
}

// piece is as many bits of an address, from the one at this place on (the first is at 0); they are of one word.
func piece(a api.Addr, at, many int) uint64 {
	word, rest := a.Lo, width(a)-at-many
	if rest >= 64 {
		word, rest = a.Hi, rest-64
	}
	return word >> rest & (1<<many - 1)
}
