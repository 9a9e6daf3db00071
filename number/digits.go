package number

import "guidepost/api"

// natOf is the number of these digits, of which the greatest may be noughts. As a digit has 32 bits, too many digits are too many bits.
func natOf(digits []uint32) (Nat, api.Errno) {
	many := len(digits)
	for many > 0 && digits[many-1] == 0 {
		many--
	}
	if many > most {
		return Nat{}, api.ErrLong
	}
	a := Nat{many: many}
	copy(a.digits[:], digits[:many])
	return a, api.OK
}

// addTo adds by to as many digits, and tells what the digit above them must yet get.
func addTo(digits, by []uint32) uint32 {
	return addTimes(digits, by, 1)
}

// addTimes adds so many times by to as many digits, and tells what the digit above them must yet get. (The greatest product of two digits, with two digits more, is just the greatest number of 64 bits.)
func addTimes(digits, by []uint32, times uint32) uint32 {
	carry := uint64(0)
	for i := range len(by) {
		t := uint64(times)*uint64(by[i]) + uint64(digits[i]) + carry
		digits[i] = uint32(t)
		carry = t >> 32
	}
	return uint32(carry)
}

// takeFrom takes so many times by from as many digits, and tells what the digit above them must yet lose.
func takeFrom(digits, by []uint32, times uint32) uint32 {
	carry := uint64(0)
	for i := range len(by) {
		t := uint64(times)*uint64(by[i]) + carry
		d := uint64(digits[i]) - uint64(uint32(t))
		digits[i] = uint32(d)
		carry = t>>32 + d>>63
	}
	return uint32(carry)
}

// shiftUp shifts digits up by less than 32 bits; what goes out above is lost.
func shiftUp(digits []uint32, by int) {
	carry := uint64(0)
	for i := range len(digits) {
		t := uint64(digits[i])<<by | carry
		digits[i] = uint32(t)
		carry = t >> 32
	}
}

// shiftDown shifts digits down by less than 32 bits; what goes out below is lost.
func shiftDown(digits []uint32, by int) {
	above := uint32(0)
	for i := range len(digits) {
		at := len(digits) - 1 - i
		t := uint64(above)<<32 | uint64(digits[at])
		above = digits[at]
		digits[at] = uint32(t >> by)
	}
}
