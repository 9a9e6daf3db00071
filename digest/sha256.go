package digest

// rounds256 is what SHA-256 adds in each round: of the cube roots of the first 64 primes the first 32 bits behind the point.
var rounds256 = [64]uint32{
	0x428a2f98, 0x71374491, 0xb5c0fbcf, 0xe9b5dba5, 0x3956c25b, 0x59f111f1, 0x923f82a4, 0xab1c5ed5,
	0xd807aa98, 0x12835b01, 0x243185be, 0x550c7dc3, 0x72be5d74, 0x80deb1fe, 0x9bdc06a7, 0xc19bf174,
	0xe49b69c1, 0xefbe4786, 0x0fc19dc6, 0x240ca1cc, 0x2de92c6f, 0x4a7484aa, 0x5cb0a9dc, 0x76f988da,
	0x983e5152, 0xa831c66d, 0xb00327c8, 0xbf597fc7, 0xc6e00bf3, 0xd5a79147, 0x06ca6351, 0x14292967,
	0x27b70a85, 0x2e1b2138, 0x4d2c6dfc, 0x53380d13, 0x650a7354, 0x766a0abb, 0x81c2c92e, 0x92722c85,
	0xa2bfe8a1, 0xa81a664b, 0xc24b8b70, 0xc76c51a3, 0xd192e819, 0xd6990624, 0xf40e3585, 0x106aa070,
	0x19a4c116, 0x1e376c08, 0x2748774c, 0x34b0bcb5, 0x391c0cb3, 0x4ed8aa4a, 0x5b9cca4f, 0x682e6ff3,
	0x748f82ee, 0x78a5636f, 0x84c87814, 0x8cc70208, 0x90befffa, 0xa4506ceb, 0xbef9a3f7, 0xc67178f2,
}

// stir256 is what SHA-256 makes of h by one more block.
func stir256(h [8]uint32, from block) [8]uint32 {
	v := h
	for i, w := range spread256(from) {
		a, e := v[0], v[4]
		t := v[7] + (right(e, 6) ^ right(e, 11) ^ right(e, 25)) + choice(e, v[5], v[6]) + rounds256[i] + w
		u := (right(a, 2) ^ right(a, 13) ^ right(a, 22)) + majority(a, v[1], v[2])
		v = [8]uint32{t + u, a, v[1], v[2], v[3] + t, e, v[5], v[6]}
	}
	for i := range h {
		h[i] += v[i]
	}
	return h
}

// spread256 is a word of the block for each of SHA-256's rounds.
func spread256(from block) [64]uint32 {
	var w [64]uint32
	for i := range w {
		if i < 16 {
			w[i] = from.word(i)
			continue
		}
		near, far := w[i-2], w[i-15]
		w[i] = w[i-16] + (right(far, 7) ^ right(far, 18) ^ far>>3) + w[i-7] + (right(near, 17) ^ right(near, 19) ^ near>>10)
	}
	return w
}
