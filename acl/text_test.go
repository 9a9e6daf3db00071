package acl_test

import (
	"math"
	"math/rand"
	"regexp"
	"strings"
	"testing"

	"guidepost/acl"
	"guidepost/api"
)

// P13.1: addresses that are right, and their texts; there and back.
func TestText(t *testing.T) {
	for _, c := range []struct {
		a    api.Addr
		text string
	}{
		{api.Addr{Lo: 0xC0000201}, "192.0.2.1"},
		{api.Addr{}, "0.0.0.0"},
		{api.Addr{Lo: 1}, "0.0.0.1"},
		{api.Addr{Lo: 255}, "0.0.0.255"},
		{api.Addr{Lo: 256}, "0.0.1.0"},
		{api.Addr{Lo: 0x01020304}, "1.2.3.4"},
		{api.Addr{Lo: 0x0a6409c7}, "10.100.9.199"},
		{api.Addr{Lo: 1 << 31}, "128.0.0.0"},
		{api.Addr{Lo: 1<<32 - 1}, "255.255.255.255"},
		{api.Addr{V6: true}, "0:0:0:0:0:0:0:0"},
		{api.Addr{V6: true, Lo: 1}, "0:0:0:0:0:0:0:1"},
		{api.Addr{V6: true, Hi: 1}, "0:0:0:1:0:0:0:0"},
		{api.Addr{V6: true, Hi: 1, Lo: 1}, "0:0:0:1:0:0:0:1"},
		{api.Addr{V6: true, Lo: 0xC0000201}, "0:0:0:0:0:0:c000:201"},
		{api.Addr{V6: true, Lo: 1 << 32}, "0:0:0:0:0:1:0:0"},
		{api.Addr{V6: true, Lo: 1 << 63}, "0:0:0:0:8000:0:0:0"},
		{api.Addr{V6: true, Lo: math.MaxUint64}, "0:0:0:0:ffff:ffff:ffff:ffff"},
		{api.Addr{V6: true, Hi: math.MaxUint64}, "ffff:ffff:ffff:ffff:0:0:0:0"},
		{api.Addr{V6: true, Hi: math.MaxUint64, Lo: math.MaxUint64}, "ffff:ffff:ffff:ffff:ffff:ffff:ffff:ffff"},
		{api.Addr{V6: true, Hi: 0x20010db800000000, Lo: 1}, "2001:db8:0:0:0:0:0:1"},
		{api.Addr{V6: true, Hi: 0x0001002203334444, Lo: 0x0000000a00bc0def}, "1:22:333:4444:0:a:bc:def"},
		{api.Addr{V6: true, Hi: 0x0123456789abcdef, Lo: 0xfedcba9876543210}, "123:4567:89ab:cdef:fedc:ba98:7654:3210"},
		{api.Addr{V6: true, Hi: 0x1000010000100001, Lo: 0xf0000f0000f0000f}, "1000:100:10:1:f000:f00:f0:f"},
	} {
		if !acl.Right(c.a) {
			t.Error(c.a, "is not right")
		}
		if text, e := acl.Text(c.a); text != c.text || e != api.OK {
			t.Error(c.a, text, e, "want", c.text)
		}
		if a, e := acl.Parse(c.text); a != c.a || e != api.OK {
			t.Error(c.text, a, e, "want", c.a)
		}
	}
}

// P13.1: addresses that are not right have no text.
func TestNoAddress(t *testing.T) {
	for _, a := range []api.Addr{
		{Lo: 1 << 32}, {Lo: 1<<32 + 1}, {Lo: 1 << 33}, {Lo: 1 << 63}, {Lo: math.MaxUint64}, {Lo: 0x1C0000201},
		{Hi: 1}, {Hi: 1, Lo: 1}, {Hi: 1 << 32}, {Hi: 1 << 63}, {Hi: math.MaxUint64}, {Hi: 1, Lo: 1<<32 - 1}, {Hi: 1, Lo: 1 << 32}, {Hi: math.MaxUint64, Lo: math.MaxUint64},
	} {
		if text, e := acl.Text(a); acl.Right(a) || text != "" || e != api.ErrArg {
			t.Error(a, acl.Right(a), text, e)
		}
		if a.V6 = true; !acl.Right(a) {
			t.Error(a, "is right")
		}
	}
}

// P13.1: texts that are of no address.
func TestParseRefuses(t *testing.T) {
	for what, texts := range map[string][]string{
		"nothing":        {"", " ", ".", ":", "...", ":::::::", "0"},
		"noughts ahead":  {"1.2.3.04", "01.2.3.4", "1.2.3.00", "00.0.0.0", "0.0.0.000", "1.002.3.4", "1.2.3.0255", "0:0:0:0:0:0:0:01", "2001:0db8:0:0:0:0:0:1", "0000:0:0:0:0:0:0:0", "0:0:0:00:0:0:0:0", "00001:0:0:0:0:0:0:0", "0:0:0:0:0:0:0:0ffff"},
		"great letters":  {"2001:DB8:0:0:0:0:0:1", "0:0:0:0:0:0:0:A", "F:0:0:0:0:0:0:0", "0:0:0:fFff:0:0:0:0"},
		"noughts left":   {"::1", "::", "1::", "2001:db8::1", "1:2:3:4:5:6:7::", "::2:3:4:5:6:7:8", "1::3:4:5:6:7:8", "1:2:3::5:6:7:8", "1:2:3:4:5:6:7:8::", "::1.2.3.4", "0:0:0:0:0:ffff:1.2.3.4"},
		"too few":        {"1.2.3", "1.2", "1", "16909060", "1:2:3:4:5:6:7", "1:2", "1:", "1."},
		"too many":       {"1.2.3.4.5", "1.2.3.4.", ".1.2.3.4", "0.0.0.0.0", "0.1.2.3.4", "1:2:3:4:5:6:7:8:9", "1:2:3:4:5:6:7:8:", ":1:2:3:4:5:6:7:8", "0:1:2:3:4:5:6:7:8", "0:0:0:0:0:0:0:0:0"},
		"empty parts":    {"1..3.4", ".2.3.4", "1.2.3.", "1.2..4", ":2:3:4:5:6:7:8", "1:2:3:4:5:6:7:", "1:2:3::4:5:6:7:8"},
		"too much":       {"1.2.3.256", "256.2.3.4", "1.300.3.4", "1.2.999.4", "1.2.3.1000", "1.2.3.4294967296", "1.2.3.18446744073709551617", "10000:0:0:0:0:0:0:0", "0:0:0:0:0:0:0:10000", "0:0:0:fffff:0:0:0:0", "0:0:0:0:0:0:0:10000000000000001"},
		"signs":          {"+1.2.3.4", "-1.2.3.4", "1.2.3.+4", "1.2.3.-0", "+1:2:3:4:5:6:7:8", "1:2:3:-4:5:6:7:8", "1:2:3:4:5:6:7:-0"},
		"blanks":         {" 1.2.3.4", "1.2.3.4 ", "1. 2.3.4", "1 .2.3.4", "1.2.3.4\n", "1.2.3.4\t", "1.2.3.4\x00", " 1:2:3:4:5:6:7:8", "1:2:3:4:5:6:7:8 ", "1:2:3:4: 5:6:7:8", "1:2:3:4:5:6:7:8\r"},
		"other letters":  {"1.2.3.a", "a.b.c.d", "1.2.3.4e", "1.2.3.0x4", "0x1.2.3.4", "1_0.2.3.4", "1,2,3,4", "g:0:0:0:0:0:0:0", "0:0:0:0:0:0:0:g", "0x1:2:3:4:5:6:7:8", "f_f:0:0:0:0:0:0:0", "1:2:3:4:5:6:7:\xff", "1.2.3.\xff", "1.2.3.é", "١.2.3.4", "1.2.3.４", "abcd", "localhost"},
		"both marks":     {"1.2:3.4", "1.2.3.4:53", "1:2:3:4:5:6:7:8.9", "1.2.3:4", "1:2:3:4.5.6.7.8", "1.2.3.4.5.6.7.8", "1:2:3:4"},
		"more behind it": {"1.2.3.4/8", "1.2.3.4 5", "1.2.3.4x", "1:2:3:4:5:6:7:8/64", "1:2:3:4:5:6:7:8%eth0", "[1:2:3:4:5:6:7:8]", "1.2.3.4\x001", "1.2.3.41.2.3.4"},
	} {
		for _, text := range texts {
			if a, e := acl.Parse(text); a != (api.Addr{}) || e != api.ErrText {
				t.Errorf("%s: %q: %v, %v", what, text, a, e)
			}
		}
	}
}

// P1: a text of many parts, and one of a great part.
func TestParseLongTexts(t *testing.T) {
	for _, part := range []string{"1.", "1:", "0:", "0", "1", ".", ":", "f", "\x00"} {
		if a, e := acl.Parse(strings.Repeat(part, 1<<20)); a != (api.Addr{}) || e != api.ErrText {
			t.Error(part, a, e)
		}
	}
}

// P13.3, T6: Parse of Text is the address; Text tells each in its own way.
func TestThereAndBack(t *testing.T) {
	r := rand.New(rand.NewSource(131))
	seen := map[string]api.Addr{}
	for range 20000 {
		a := drawnAddr(r)
		text, e := acl.Text(a)
		if (e == api.OK) != (digits(a) != "") || acl.Right(a) != (e == api.OK) {
			t.Fatal(a, e, acl.Right(a))
		}
		if e != api.OK {
			continue
		}
		if back, e := acl.Parse(text); back != a || e != api.OK {
			t.Fatal(a, text, back, e)
		}
		if addr(text) != a {
			t.Fatal(a, text, "is read otherwise")
		}
		if other, there := seen[text]; there && other != a {
			t.Fatal(a, other, text)
		}
		seen[text] = a
	}
}

// texts are what Text may tell.
var texts = regexp.MustCompile(`^(?:(?:(?:0|[1-9]\d?|1\d\d|2[0-4]\d|25[0-5])(?:\.|$)){4}|(?:(?:0|[1-9a-f][0-9a-f]{0,3})(?::|$)){8})$`)

// spoiled is a text with one letter more, less or other.
func spoiled(r *rand.Rand, text string) string {
	letters := "0123456789abcdefABF.:: +-gx_/%"
	i, c := r.Intn(len(text)+1), letters[r.Intn(len(letters))]
	switch r.Intn(3) {
	case 0:
		return text[:i] + string(c) + text[i:]
	case 1:
		return text[:i] + text[min(i+1, len(text)):]
	}
	return text[:i] + string(c) + text[min(i+1, len(text)):]
}

// P13.1: a text that is nearly an address's is read if it is another's, and refused else.
func TestParseOfNearTexts(t *testing.T) {
	r := rand.New(rand.NewSource(132))
	read, refused := 0, 0
	for range 60000 {
		text, e := acl.Text(drawnAddr(r))
		if e != api.OK {
			continue
		}
		for range 1 + r.Intn(2) {
			text = spoiled(r, text)
		}
		want := texts.MatchString(text) && !strings.HasSuffix(text, ".") && !strings.HasSuffix(text, ":")
		a, e := acl.Parse(text)
		if want && (e != api.OK || a != addr(text)) || !want && (e != api.ErrText || a != api.Addr{}) {
			t.Fatalf("%q: %v, %v", text, a, e)
		}
		if want {
			read++
		} else {
			refused++
		}
	}
	if read < 5000 || refused < 5000 {
		t.Error(read, refused)
	}
}
