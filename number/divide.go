package number

import "math/bits"

// divided is the quotient of a and b, which is not 0, and what is left: long division, a digit of the quotient at a time. Both are shifted up beforehand, until b's greatest bit is set, for then that one digit tells nearly how often b goes in.
func divided(a, b Nat) (quotient, left Nat) {
	shift := bits.LeadingZeros32(b.digits[b.many-1])
	by := b.digits[:b.many]
	shiftUp(by, shift)
	var rest [most + 1]uint32
	copy(rest[:], a.digits[:a.many])
	shiftUp(rest[:a.many+1], shift)

	var found [most]uint32
	places := a.many - b.many + 1
	for i := range places {
		at := places - 1 - i
		found[at] = goesIn(rest[at:at+b.many+1], by)
	}
	shiftDown(rest[:a.many+1], shift)
	quotient, _ = natOf(found[:])
	left, _ = natOf(rest[:])
	return quotient, left
}

// goesIn is how often by goes into rest, which has one digit more and is less than by shifted up by a digit. Rest keeps what is left. The guess is never too little and at most 2 too much: then rest fell below 0, which its digit above the others shows, and by is added until it is back.
func goesIn(rest, by []uint32) uint32 {
	n := len(by)
	often := guess(rest[n], rest[n-1], by[n-1])
	rest[n] -= takeFrom(rest[:n], by, often)
	for rest[n] != 0 {
		rest[n] += addTo(rest[:n], by)
		often--
	}
	return often
}

// guess is how often by goes into two digits, or the greatest digit, if that is less.
func guess(high, low, by uint32) uint32 {
	often := (uint64(high)<<32 | uint64(low)) / uint64(by)
	return uint32(min(often, 1<<32-1))
}
