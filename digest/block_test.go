package digest

import "testing"

// P4.1: the length is told in bits, as eight bytes: of texts that are too long to be digested in a test, too.
func TestEndedByTheLength(t *testing.T) {
	for length, want := range map[int]string{
		0:         "\x00\x00\x00\x00\x00\x00\x00\x00",
		1:         "\x00\x00\x00\x00\x00\x00\x00\x08",
		31:        "\x00\x00\x00\x00\x00\x00\x00\xf8",
		32:        "\x00\x00\x00\x00\x00\x00\x01\x00",
		1<<29 - 1: "\x00\x00\x00\x00\xff\xff\xff\xf8",
		1 << 29:   "\x00\x00\x00\x01\x00\x00\x00\x00",
		1<<31 - 1: "\x00\x00\x00\x03\xff\xff\xff\xf8",
	} {
		full := block{55: 7}
		b := ended(full, length)
		if string(b[56:]) != want || b[55] != 7 {
			t.Errorf("%d: %x", length, b[55:])
		}
	}
}

// P4.1: as many blocks as the text, one byte and eight of length take.
func TestBlocks(t *testing.T) {
	for length, want := range map[int]int{0: 1, 55: 1, 56: 2, 63: 2, 64: 2, 119: 2, 120: 3, 1<<31 - 1: 1<<25 + 1} {
		if got := blocks(length); got != want {
			t.Errorf("%d bytes: %d blocks, not %d", length, got, want)
		}
	}
}
