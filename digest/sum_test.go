package digest_test

import (
	"crypto/sha1"
	"crypto/sha256"
	"math/rand"
	"strings"
	"testing"

	"guidepost/digest"
)

// P4.1: the chapter's examples, and texts whose digests FIPS 180-4's own examples tell.
func TestSumsThatAreKnown(t *testing.T) {
	for _, x := range []struct{ text, one, two string }{
		{"", "da39a3ee5e6b4b0d3255bfef95601890afd80709", "e3b0c44298fc1c149afbf4c8996fb92427ae41e4649b934ca495991b7852b855"},
		{"a", "86f7e437faa5a7fce15d1ddcb9eaeaea377667b8", "ca978112ca1bbdcafac231b39a23dc4da786eff8147c4e72b9807785afee48bb"},
		{"abc", "a9993e364706816aba3e25717850c26c9cd0d89d", "ba7816bf8f01cfea414140de5dae2223b00361a396177a9cb410ff61f20015ad"},
		{
			"abcdbcdecdefdefgefghfghighijhijkijkljklmklmnlmnomnopnopq",
			"84983e441c3bd26ebaae4aa1f95129e5e54670f1",
			"248d6a61d20638b8e5c026930c3e6039a33ce45964ff2167f6ecedd419db06c1",
		},
		{
			"abcdefghbcdefghicdefghijdefghijkefghijklfghijklmghijklmnhijklmnoijklmnopjklmnopqklmnopqrlmnopqrsmnopqrstnopqrstu",
			"a49b2446a02c645bf419f995b67091253a04a259",
			"cf5b16a778af8380036ce59e7b0492370b249b11e8f07a51afac45037afee9d1",
		},
		{strings.Repeat("a", 1000000), "34aa973cd4c4daa4f61eeb2bdbad27316534016f", "cdc76e5c9914fb9281a1c7e284d73e67f1809a48a497200e046d39ccc7112cd0"},
	} {
		if one := digest.Hex(digest.Sum1(x.text)); one != x.one {
			t.Errorf("Sum1 of %d bytes: %s, not %s", len(x.text), one, x.one)
		}
		if two := digest.Hex(digest.Sum256(x.text)); two != x.two {
			t.Errorf("Sum256 of %d bytes: %s, not %s", len(x.text), two, x.two)
		}
	}
}

// checkSums holds both digests of a text against those of Go's own library.
func checkSums(t *testing.T, text string) {
	t.Helper()
	if one, want := digest.Sum1(text), sha1.Sum([]byte(text)); one != string(want[:]) {
		t.Errorf("Sum1 of %d bytes: %x, not %x", len(text), one, want)
	}
	if two, want := digest.Sum256(text), sha256.Sum256([]byte(text)); two != string(want[:]) {
		t.Errorf("Sum256 of %d bytes: %x, not %x", len(text), two, want)
	}
}

// P4.1: at the places where the byte 80 or the length goes over into another block (at 55 and 56, 63 and 64, 119 and 120, and so
// on), of noughts, of bytes 80, and of the greatest bytes: none of them is taken for what comes behind the text.
func TestSumsAboutABlocksEnd(t *testing.T) {
	for length := range 65*4 + 1 {
		for _, of := range []string{"\x00", "\x80", "\xff", "a"} {
			checkSums(t, strings.Repeat(of, length))
		}
	}
}

// P4.1: every byte counts, and so does its place.
func TestSumsOfOneByte(t *testing.T) {
	for c := range 256 {
		checkSums(t, string([]byte{byte(c)}))
	}
	seen := map[string]int{}
	for place := range 130 {
		text := []byte(strings.Repeat("\x00", 130))
		text[place] = 1
		checkSums(t, string(text))
		seen[digest.Sum1(string(text))+digest.Sum256(string(text))]++
	}
	if len(seen) != 130 {
		t.Errorf("130 texts have %d digests", len(seen))
	}
}

// P4.1: drawn texts, short and long.
func TestSumsOfDrawnTexts(t *testing.T) {
	r := rand.New(rand.NewSource(4))
	for range 2000 {
		checkSums(t, draw(r, r.Intn(400)))
	}
	for _, length := range []int{1023, 4096, 65535, 65536, 65537, 70000} {
		checkSums(t, draw(r, length))
	}
}

// P4: a digest hangs on its text alone, not on what was digested ahead of it.
func TestSumsKeepNothing(t *testing.T) {
	one, two := digest.Sum1("abc"), digest.Sum256("abc")
	digest.Sum1(strings.Repeat("x", 100))
	digest.Sum256(strings.Repeat("x", 100))
	if digest.Sum1("abc") != one || digest.Sum256("abc") != two {
		t.Error("a second digest is another one")
	}
}

// draw is so many bytes, any of them.
func draw(r *rand.Rand, length int) string {
	s := make([]byte, length)
	for i := range s {
		s[i] = byte(r.Intn(256))
	}
	return string(s)
}
