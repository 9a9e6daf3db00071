package digest

// block is what is stirred in at one time.
type block [64]byte

// lengthRoom is how many bytes of the last block tell the text's length.
const lengthRoom = 8

// blocks is how many blocks a text of so many bytes makes: a byte and the length come behind it, whatever else fits in.
func blocks(length int) int {
	return (length+lengthRoom)/len(block{}) + 1
}

// blockOf is the text's block of this number. It is made for itself, so that a long text is not copied as a whole.
func blockOf(s string, number int) block {
	var b block
	begin := number * len(b)
	copy(b[:], s[min(begin, len(s)):])
	if end := len(s) - begin; end >= 0 && end < len(b) {
		b[end] = 0x80
	}
	if number == blocks(len(s))-1 {
		b = ended(b, len(s))
	}
	return b
}

// ended is a block with the length of the text in its last bytes: in bits, the greatest byte first.
func ended(b block, length int) block {
	bits := uint64(length) << 3
	for i := range lengthRoom {
		b[len(b)-1-i] = byte(bits >> (8 * i))
	}
	return b
}

// word is the block's word of this number, the greatest byte first.
func (b *block) word(number int) uint32 {
	at := 4 * number
	return uint32(b[at])<<24 | uint32(b[at+1])<<16 | uint32(b[at+2])<<8 | uint32(b[at+3])
}

// bytesOf is words as bytes, the greatest of each first.
func bytesOf(words []uint32) string {
	s := make([]byte, 0, 4*len(words))
	for _, w := range words {
		s = append(s, byte(w>>24), byte(w>>16), byte(w>>8), byte(w))
	}
	return string(s)
}

// left is a word turned to the left: what goes off there comes in on the right.
func left(w uint32, by int) uint32 {
	return w<<by | w>>(32-by)
}

// right is a word turned to the right.
func right(w uint32, by int) uint32 {
	return w>>by | w<<(32-by)
}

// choice takes each bit of x where which has 1, and of y where it has 0.
func choice(which, x, y uint32) uint32 {
	return which&x | ^which&y
}

// majority takes each bit as at least two of three have it.
func majority(x, y, z uint32) uint32 {
	return x&y | x&z | y&z
}
