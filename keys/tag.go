package keys

// tagOf is the sum of right data as words of two bytes; what is carried out of 16 bits is added once. (Of 2000 bytes the sum is far below 2^32.)
func tagOf(d string) int {
	var sum uint32
	for i := range len(d) {
		word := uint32(d[i])
		if i%2 == 0 {
			word <<= 8
		}
		sum += word
	}
	return int(uint16(sum + sum>>16))
}
