package data

import (
	"strconv"
	"strings"
)

// digits are the digits of hex and of base 32.
const digits = "0123456789abcdefghijklmnopqrstuv"

// number is the number that bytes are, the greatest first.
func number(piece string) int {
	n := 0
	for i := range len(piece) {
		n = n<<8 | int(piece[i])
	}
	return n
}

// bytesOf is a number as so many bytes.
func bytesOf(n, width int) string {
	must(n >= 0 && n>>(8*width) == 0)
	piece := make([]byte, width)
	for i := range piece {
		piece[i] = byte(n >> (8 * (width - 1 - i)))
	}
	return string(piece)
}

// counted is bytes behind a byte that is their number.
func counted(s string) string {
	return bytesOf(len(s), 1) + s
}

func tellNumber(piece string, base int) string {
	return strconv.FormatInt(int64(number(piece)), base)
}

func readNumber(text string, base, width int) string {
	n, err := strconv.ParseInt(text, base, 64)
	must(err == nil)
	return bytesOf(int(n), width)
}

func hex(s string) string {
	return spelt(s, 4)
}

func unhex(text string) string {
	return unspelt(text, 4)
}

func base32(s string) string {
	return spelt(s, 5)
}

func unbase32(text string) string {
	return unspelt(text, 5)
}

// spelt is bytes as digits of so many bits each; the last one is made up with bits 0. Bits that are told go off to the left,
// as others come in on the right.
func spelt(s string, width int) string {
	var text []byte
	held, bits := uint16(0), 0
	for i := range len(s) {
		held = held<<8 | uint16(s[i])
		bits += 8
		for bits >= width {
			bits -= width
			text = append(text, digits[held>>bits&(1<<width-1)])
		}
	}
	if bits > 0 {
		text = append(text, digits[held<<(width-bits)&(1<<width-1)])
	}
	return string(text)
}

// unspelt is the whole bytes that digits make. What is left over is not looked at: who reads holds the bytes' own text against
// this one.
func unspelt(text string, width int) string {
	var s []byte
	held, bits := uint16(0), 0
	for i := range len(text) {
		digit := strings.IndexByte(digits, text[i])
		must(digit >= 0 && digit < 1<<width)
		held = held<<width | uint16(digit)
		bits += width
		if bits >= 8 {
			bits -= 8
			s = append(s, byte(held>>bits))
		}
	}
	return string(s)
}
