package digest_test

import (
	"encoding/base32"
	"encoding/hex"
	"math/rand"
	"strings"
	"testing"

	"guidepost/api"
	"guidepost/digest"
)

const hexLetters, base32Letters = "0123456789abcdef", "0123456789abcdefghijklmnopqrstuv"

var slowBase32 = base32.NewEncoding(base32Letters).WithPadding(base32.NoPadding)

// read is one of the calls that read a text.
type read func(string) (string, api.Errno)

// wants asks that a text is read as these bytes.
func (f read) wants(t *testing.T, text, want string) {
	t.Helper()
	if s, e := f(text); s != want || e != api.OK {
		t.Errorf("%q: %q %v, not %q", text, s, e, want)
	}
}

// refuses asks that a text tells nothing.
func (f read) refuses(t *testing.T, text string) {
	t.Helper()
	if s, e := f(text); s != "" || e != api.ErrText {
		t.Errorf("%q: %q %v, not ErrText", text, s, e)
	}
}

// mixed is a text with every second letter great.
func mixed(text string) string {
	s := []byte(text)
	for i := 0; i < len(s); i += 2 {
		s[i] = strings.ToUpper(text)[i]
	}
	return string(s)
}

// P4.2: any byte is two letters, the higher half first.
func TestHexOfEachByte(t *testing.T) {
	for c := range 256 {
		s := string([]byte{byte(c)})
		want := hexLetters[c>>4:c>>4+1] + hexLetters[c&15:c&15+1]
		if text := digest.Hex(s); text != want {
			t.Errorf("%d: %s, not %s", c, text, want)
		}
		read(digest.Unhex).wants(t, want, s)
		read(digest.Unhex).wants(t, strings.ToUpper(want), s)
	}
}

// P4.2: more bytes than one, and none at all.
func TestHex(t *testing.T) {
	for s, want := range map[string]string{
		"":                         "",
		"\x00":                     "00",
		"\x00\x00\x01":             "000001",
		"abc":                      "616263",
		"\x01\x23\x45\x67\x89":     "0123456789",
		"\xab\xcd\xef":             "abcdef",
		"\xff\x00\x7f\x80":         "ff007f80",
		strings.Repeat("\xa5", 99): strings.Repeat("a5", 99),
	} {
		if text := digest.Hex(s); text != want {
			t.Errorf("%q: %s, not %s", s, text, want)
		}
		read(digest.Unhex).wants(t, want, s)
	}
	for _, text := range []string{"aBcDeF", "AbCdEf", "ABCdef", "abcDEF"} {
		read(digest.Unhex).wants(t, text, "\xab\xcd\xef")
	}
}

// P4.2: a text of an odd length tells no bytes.
func TestUnhexOfOddLengths(t *testing.T) {
	for length := 1; length < 40; length += 2 {
		for _, of := range []string{"0", "f", "A"} {
			read(digest.Unhex).refuses(t, strings.Repeat(of, length))
		}
	}
}

// P4.2: no text tells bytes where another byte stands among its letters, whichever and wherever.
func TestUnhexOfOtherBytes(t *testing.T) {
	refusesOthers(t, digest.Unhex, hexLetters, "0aF91b7C")
	for _, text := range []string{"0x00", "-1", "+1", " 00", "00 ", "0 0", "00\n", "0_0_", "\u0660\u0661", "g0", "0g", "G0", "0G", "::", "//", "@@", "``"} {
		read(digest.Unhex).refuses(t, text)
	}
}

// refusesOthers puts each byte that is none of the letters, great ones or small, at each place of a text.
func refusesOthers(t *testing.T, f read, letters, text string) {
	t.Helper()
	for c := range 256 {
		if strings.IndexByte(letters+strings.ToUpper(letters), byte(c)) >= 0 {
			continue
		}
		for place := range len(text) {
			f.refuses(t, text[:place]+string([]byte{byte(c)})+text[place+1:])
		}
		f.refuses(t, text+string([]byte{byte(c)}))
		f.refuses(t, string([]byte{byte(c)}))
	}
}

// P4.3: the chapter's examples, and those of RFC 4648 without what it fills up with.
func TestBase32(t *testing.T) {
	for s, want := range map[string]string{
		"":                     "",
		"\xff":                 "vs",
		"\x00":                 "00",
		"\x00\x00":             "0000",
		"\x01":                 "04",
		"f":                    "co",
		"fo":                   "cpng",
		"foo":                  "cpnmu",
		"foob":                 "cpnmuog",
		"fooba":                "cpnmuoj1",
		"foobar":               "cpnmuoj1e8",
		"\xff\xff\xff\xff\xff": "vvvvvvvv",
		"\x00\x44\x32\x14\xc7\x42\x54\xb6\x35\xcf\x84\x65\x3a\x56\xd7\xc6\x75\xbe\x77\xdf": base32Letters,
	} {
		if text := digest.Base32(s); text != want {
			t.Errorf("%q: %s, not %s", s, text, want)
		}
		read(digest.Unbase32).wants(t, want, s)
		read(digest.Unbase32).wants(t, strings.ToUpper(want), s)
		read(digest.Unbase32).wants(t, mixed(want), s)
	}
	read(digest.Unbase32).wants(t, "VS", "\xff")
	read(digest.Unbase32).refuses(t, "vt")
	read(digest.Unbase32).refuses(t, "v")
}

// P4.3: any byte, alone and at each place of five.
func TestBase32OfEachByte(t *testing.T) {
	for c := range 256 {
		for length := 1; length <= 6; length++ {
			for place := range length {
				s := []byte(strings.Repeat("\x5a", length))
				s[place] = byte(c)
				if text, want := digest.Base32(string(s)), slowBase32.EncodeToString(s); text != want {
					t.Errorf("%x: %s, not %s", s, text, want)
				}
				read(digest.Unbase32).wants(t, digest.Base32(string(s)), string(s))
			}
		}
	}
}

// P4.3: five bits or more would be left over of 1, 3 and 6 letters, and of as many with eights more: refused, though all of them be
// 0. Of the other lengths less is left over: as many whole bytes are told as the bits make.
func TestUnbase32OfEachLength(t *testing.T) {
	for length := range 50 {
		text := strings.Repeat("0", length)
		if length%8 == 1 || length%8 == 3 || length%8 == 6 {
			read(digest.Unbase32).refuses(t, text)
			read(digest.Unbase32).refuses(t, strings.Repeat("v", length))
		} else {
			read(digest.Unbase32).wants(t, text, strings.Repeat("\x00", length*5/8))
		}
	}
}

// P4.3: the bits that are left over (2, 4, 1, 3 of 2, 4, 5, 7 letters) are all 0, or there are no bytes.
func TestUnbase32OfBitsLeftOver(t *testing.T) {
	for length, over := range map[int]int{2: 2, 4: 4, 5: 1, 7: 3, 10: 2, 12: 4, 13: 1, 15: 3} {
		for last := range 32 {
			text := strings.Repeat("0", length-1) + base32Letters[last:last+1]
			if last%(1<<over) != 0 {
				read(digest.Unbase32).refuses(t, text)
				read(digest.Unbase32).refuses(t, strings.ToUpper(text))
				continue
			}
			want := strings.Repeat("\x00", length*5/8-1) + string([]byte{byte(last >> over)})
			read(digest.Unbase32).wants(t, text, want)
		}
	}
}

// P4.3: letters from w on, and all other bytes, tell nothing, whichever and wherever.
func TestUnbase32OfOtherBytes(t *testing.T) {
	refusesOthers(t, digest.Unbase32, base32Letters, "0aV91b7C")
	for _, text := range []string{"w", "ww", "w0", "0w", "W0", "0W", "z0", "Z0", "vs======", "vs=", " vs", "vs ", "v s", "vs\n", "-0", "\u017f0", "vs0"} {
		read(digest.Unbase32).refuses(t, text)
	}
}

// P4.4: bytes told and read again are the bytes; each text that is read is, but for great letters, the one that its bytes are told as.
func TestThereAndBack(t *testing.T) {
	r := rand.New(rand.NewSource(44))
	for range 3000 {
		s := draw(r, r.Intn(80))
		if digest.Hex(s) != hex.EncodeToString([]byte(s)) || digest.Base32(s) != slowBase32.EncodeToString([]byte(s)) {
			t.Errorf("%x: %s %s", s, digest.Hex(s), digest.Base32(s))
		}
		read(digest.Unhex).wants(t, digest.Hex(s), s)
		read(digest.Unhex).wants(t, mixed(digest.Hex(s)), s)
		read(digest.Unbase32).wants(t, digest.Base32(s), s)
		read(digest.Unbase32).wants(t, mixed(digest.Base32(s)), s)
	}
}

// P4.4, the other way round: of drawn texts only those are read that are told again.
func TestBackAndThere(t *testing.T) {
	r := rand.New(rand.NewSource(444))
	right, wrong := 0, 0
	for range 20000 {
		text := drawText(r, base32Letters+"VAFw", r.Intn(9))
		s, e := digest.Unbase32(text)
		if e == api.OK && digest.Base32(s) != strings.ToLower(text) || e != api.OK && tellable(text) {
			t.Errorf("%q: %x %v", text, s, e)
		}
		if e == api.OK {
			right++
		} else {
			wrong++
		}
		text = drawText(r, hexLetters+"AFg", r.Intn(7))
		s, e = digest.Unhex(text)
		want, err := hex.DecodeString(text)
		if (e == api.OK) != (err == nil) || e == api.OK && s != string(want) || e != api.OK && s != "" {
			t.Errorf("%q: %x %v", text, s, e)
		}
	}
	if right < 1000 || wrong < 1000 {
		t.Errorf("too few of a kind: %d right, %d wrong", right, wrong)
	}
}

// tellable: whether some bytes have this text, by Go's own library, which looks away from the bits that are left over.
func tellable(text string) bool {
	s, err := slowBase32.DecodeString(strings.ToLower(text))
	return err == nil && slowBase32.EncodeToString(s) == strings.ToLower(text)
}

// drawText is so many of these letters.
func drawText(r *rand.Rand, of string, length int) string {
	s := make([]byte, length)
	for i := range s {
		s[i] = of[r.Intn(len(of))]
	}
	return string(s)
}
