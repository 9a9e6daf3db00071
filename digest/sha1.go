package digest

// stir1 is what SHA-1 makes of h by one more block.
func stir1(h [5]uint32, from block) [5]uint32 {
	a, b, c, d, e := h[0], h[1], h[2], h[3], h[4]
	for i, w := range spread1(from) {
		f, k := round1(i, b, c, d)
		a, b, c, d, e = left(a, 5)+f+e+k+w, a, left(b, 30), c, d
	}
	return [5]uint32{h[0] + a, h[1] + b, h[2] + c, h[3] + d, h[4] + e}
}

// spread1 is a word of the block for each of SHA-1's rounds.
func spread1(from block) [80]uint32 {
	var w [80]uint32
	for i := range w {
		if i < 16 {
			w[i] = from.word(i)
		} else {
			w[i] = left(w[i-3]^w[i-8]^w[i-14]^w[i-16], 1)
		}
	}
	return w
}

// round1 is what SHA-1 adds in a round, beside a, e and the round's word.
func round1(i int, b, c, d uint32) (f, k uint32) {
	switch i / 20 {
	case 0:
		return choice(b, c, d), 0x5a827999
	case 1:
		return b ^ c ^ d, 0x6ed9eba1
	case 2:
		return majority(b, c, d), 0x8f1bbcdc
	}
	return b ^ c ^ d, 0xca62c1d6
}
