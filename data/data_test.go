package data_test

import (
	"slices"
	"strings"
	"testing"

	"guidepost/api"
	"guidepost/data"
)

const root = "\x00"

// other is a type that the table does not have.
const other = 70

// wire is a name of these labels.
func wire(labels ...string) string {
	n := ""
	for _, label := range labels {
		n += string([]byte{byte(len(label))}) + label
	}
	return n + root
}

// longName is a name of 255 bytes, with great letters.
func longName() string {
	return strings.Repeat("\x01A", 127) + root
}

// fill is so many bytes.
func fill(count int) string {
	return strings.Repeat("\xab", count)
}

// manyStrings are strings of TXT of so many bytes in all, their length bytes counted.
func manyStrings(count int) string {
	s := ""
	for len(s) < count {
		size := min(255, count-len(s)-1)
		s += string([]byte{byte(size)}) + strings.Repeat("x", size)
	}
	return s
}

// known are the types of the table.
func known() []int {
	return []int{
		api.TypeA, api.TypeAAAA, api.TypeNS, api.TypeCNAME, api.TypeDNAME, api.TypeSOA, api.TypeMX, api.TypeTXT, api.TypeDS,
		api.TypeRRSIG, api.TypeNSEC, api.TypeDNSKEY, api.TypeNSEC3,
	}
}

// noTypes are numbers that are no types.
func noTypes() []int {
	return []int{-1, -70, 65536, 70000, 1<<16 + api.TypeA, 1 << 40, -1 << 63}
}

// pair is data and the text that tells them.
type pair struct {
	kind    int
	d, text string
}

const (
	soaNumbers = "\x00\x00\x00\x01\x00\x00\x01\x00\x00\x01\x00\x00\x01\x00\x00\x00\xff\xff\xff\xff"
	sigNumbers = "\x08\x02\x00\x00\x0e\x10\xff\xff\xff\xfe\x01\x02\x03\x04\xab\xcd"
)

func pairs() []pair {
	return []pair{
		{api.TypeA, "\xc0\x00\x02\x01", "192.0.2.1"},
		{api.TypeA, "\x00\x00\x00\x00", "0.0.0.0"},
		{api.TypeA, "\xff\x0a\x63\x64", "255.10.99.100"},
		{api.TypeAAAA, "\x20\x01\x0d\xb8" + strings.Repeat(root, 11) + "\x01", "2001:db8:0:0:0:0:0:1"},
		{api.TypeAAAA, strings.Repeat(root, 16), "0:0:0:0:0:0:0:0"},
		{api.TypeAAAA, "\xff\xff\x00\xff\x0f\x00\x00\x0f\x10\x00\x00\x10\x01\x00\xab\xcd", "ffff:ff:f00:f:1000:10:100:abcd"},
		{api.TypeNS, wire("ns", "Example"), "ns.Example."},
		{api.TypeCNAME, root, "."},
		{api.TypeDNAME, wire("a.b", " \xff"), `a\.b.\032\255.`},
		{api.TypeNS, longName(), strings.Repeat("A.", 127)},
		{api.TypeSOA, wire("a") + wire("b", "C") + soaNumbers, "a. b.C. 1 256 65536 16777216 4294967295"},
		{api.TypeSOA, root + root + strings.Repeat(root, 20), ". . 0 0 0 0 0"},
		{api.TypeMX, "\x00\x0a" + wire("m"), "10 m."},
		{api.TypeMX, "\xff\xff" + root, "65535 ."},
		{api.TypeMX, "\x00\x00" + root, "0 ."},
		{api.TypeTXT, "\x03a\"b\x00", `"a\"b" ""`},
		{api.TypeTXT, "\x00", `""`},
		{api.TypeTXT, "\x02\\\"", `"\\\""`},
		{api.TypeTXT, "\x06\x00\x09\x1f\x7f\x80\xff", `"\000\009\031\127\128\255"`},
		{api.TypeTXT, "\x05 ~!. \x01 ", `" ~!. " " "`},
		{api.TypeTXT, "\x04\\034\x02\" ", `"\\034" "\" "`},
		{api.TypeTXT, "\xff" + strings.Repeat("y", 255), `"` + strings.Repeat("y", 255) + `"`},
		{api.TypeDS, "\x01\x02\x08\x02\xff", "258 8 2 ff"},
		{api.TypeDS, "\x00\x00\x00\x00\x00\x9a", "0 0 0 009a"},
		{api.TypeDS, "\xff\xff\xff\xff\x01\x23\x45\x67\x89\xab\xcd\xef", "65535 255 255 0123456789abcdef"},
		{api.TypeRRSIG, "\x00\x01" + sigNumbers + wire("X") + "\xab", "A 8 2 3600 4294967294 16909060 43981 X. ab"},
		{api.TypeRRSIG, "\x00\x46" + sigNumbers + root + "\x00\x01", "TYPE70 8 2 3600 4294967294 16909060 43981 . 0001"},
		{api.TypeNSEC, root, "."},
		{api.TypeNSEC, root + "\x00\x02\x40\x01", ". A MX"},
		{api.TypeNSEC, wire("n") + "\x00\x01\x80", "n. TYPE0"},
		{api.TypeNSEC, wire("n") + "\x00\x01\x01", "n. TYPE7"},
		{api.TypeNSEC, wire("n") + "\x00\x02\x00\x80", "n. TYPE8"},
		{api.TypeNSEC, root + "\x00\x20" + strings.Repeat(root, 31) + "\x01", ". ANY"},
		{api.TypeNSEC, root + "\x01\x01\x80", ". TYPE256"},
		{api.TypeNSEC, root + "\x00\x20" + strings.Repeat(root, 31) + "\x01" + "\x01\x01\x80", ". ANY TYPE256"},
		{api.TypeNSEC, root + "\xff\x20" + strings.Repeat(root, 31) + "\x01", ". TYPE65535"},
		{api.TypeNSEC, root + "\x00\x07\x62\x01\x80\x08\x00\x03\x80" + "\x04\x01\x44", ". A NS SOA MX TXT AAAA RRSIG NSEC DNSKEY TYPE1025 TYPE1029"},
		{api.TypeDNSKEY, "\x01\x01\x03\x0d\x0a", "257 3 13 0a"},
		{api.TypeDNSKEY, "\x00\x00\x00\x00\x00", "0 0 0 00"},
		{api.TypeNSEC3, "\x01\x00\x00\x0c\x00\x01\xff\x00\x01\x20", "1 0 12 - vs NS"},
		{api.TypeNSEC3, "\x01\x01\xff\xff\x02\x00\xab\x05\x00\x44\x32\x14\xc7", "1 1 65535 00ab 01234567"},
		{api.TypeNSEC3, "\x00\x00\x00\x00\x01\x2d\x02\x00\x01", "0 0 0 2d 000g"},
		{api.TypeNSEC3, "\x01\x00\x00\x00\xff" + fill(255) + "\xff" + strings.Repeat("\xff", 255), "1 0 0 " + strings.Repeat("ab", 255) + " " + strings.Repeat("v", 408)},
		{other, "", `\# 0`},
		{other, "\x01", `\# 1 01`},
		{0, "\x00\xff\x10", `\# 3 00ff10`},
		{65535, wire("a"), `\# 3 016100`},
		{api.TypeOPT, "\x00\x0a\x00\x00", `\# 4 000a0000`},
		{api.TypeANY, "", `\# 0`},
	}
}

// P2.2, P2.5
func TestTextAndRead(t *testing.T) {
	for _, p := range pairs() {
		if !data.Right(p.kind, p.d) {
			t.Errorf("Right(%d, %q) is false", p.kind, p.d)
		}
		if text, e := data.Text(p.kind, p.d); text != p.text || e != api.OK {
			t.Errorf("Text(%d, %q) = %q, %v, not %q", p.kind, p.d, text, e, p.text)
		}
		if d, e := data.Read(p.kind, p.text); d != p.d || e != api.OK {
			t.Errorf("Read(%d, %q) = %q, %v, not %q", p.kind, p.text, d, e, p.d)
		}
	}
}

// wrong are data that are not of their types' forms.
func wrong() []pair {
	long := wire(strings.Repeat("x", 64))
	tooLong := "\x01b" + longName()
	soa := wire("a") + wire("b") + soaNumbers
	sig := "\x00\x01" + sigNumbers + wire("x")
	list := []pair{
		{kind: api.TypeA, d: "abc"}, {kind: api.TypeA, d: "abcde"}, {kind: api.TypeAAAA, d: fill(15)}, {kind: api.TypeAAAA, d: fill(17)},
		{kind: api.TypeAAAA, d: "abcd"}, {kind: api.TypeA, d: fill(16)},
		{kind: api.TypeSOA, d: soa + root}, {kind: api.TypeSOA, d: wire("a") + soaNumbers[:19]}, {kind: api.TypeSOA, d: long + wire("b") + soaNumbers},
		{kind: api.TypeSOA, d: wire("a") + tooLong + soaNumbers},
		{kind: api.TypeMX, d: "\x00" + root}, {kind: api.TypeMX, d: wire("a")[:2]}, {kind: api.TypeMX, d: "\x00\x0a" + wire("m") + root}, {kind: api.TypeMX, d: "\x00\x0a" + long},
		{kind: api.TypeTXT, d: ""}, {kind: api.TypeTXT, d: "\x01"}, {kind: api.TypeTXT, d: "\x02a"}, {kind: api.TypeTXT, d: "\x01ab"}, {kind: api.TypeTXT, d: "\x00\x01"},
		{kind: api.TypeTXT, d: "\xff" + strings.Repeat("y", 254)},
		{kind: api.TypeDS, d: "\x01\x02\x08\x02"}, {kind: api.TypeDNSKEY, d: "\x01\x01\x03\x0d"},
		{kind: api.TypeRRSIG, d: sig}, {kind: api.TypeRRSIG, d: "\x00\x01" + sigNumbers + long + "s"}, {kind: api.TypeRRSIG, d: "\x00\x01" + sigNumbers + tooLong + "s"},
		{kind: api.TypeNSEC, d: long}, {kind: api.TypeNSEC, d: tooLong}, {kind: api.TypeNSEC, d: "\xc0\x0c"},
		{kind: api.TypeNSEC3, d: "\x01\x00\x00\x0c\x00\x00"}, {kind: api.TypeNSEC3, d: "\x01\x00\x00\x0c\x00\x00\x00\x01\x20"},
		{kind: api.TypeNSEC3, d: "\x01\x00\x00\x0c\x03ab"}, {kind: api.TypeNSEC3, d: "\x01\x00\x00\x0c\x01a\x02b"}, {kind: api.TypeNSEC3, d: "\x01\x00\x00\x0c\x00"},
	}
	for _, kind := range []int{api.TypeNS, api.TypeCNAME, api.TypeDNAME} {
		for _, d := range []string{"", "\x01a", "\x02a\x00", root + root, wire("a") + "b", long, tooLong, "\xc0\x0c", "\x01a\xc0\x00"} {
			list = append(list, pair{kind: kind, d: d})
		}
	}
	for _, types := range wrongTypes() {
		list = append(list, pair{kind: api.TypeNSEC, d: root + types}, pair{kind: api.TypeNSEC3, d: "\x01\x00\x00\x00\x00\x01a" + types})
	}
	for _, p := range pairs() {
		if slices.Contains(known(), p.kind) {
			list = append(list, pair{kind: p.kind, d: ""})
		}
	}
	return list
}

// wrongTypes are bytes that are no lists of types.
func wrongTypes() []string {
	return []string{
		"\x00", "\x00\x00", "\x00\x01", "\x00\x01\x00", "\x00\x02\x40", "\x00\x02\x40\x00", "\x00\x01\x40\x00", "\x00\x01\x40\x01",
		"\x00\x01\x40\x00\x01\x20", "\x01\x01\x40\x00\x01\x40", "\x00\x01\x40\x01\x00", "\x00\x01\x40\x01\x01\x00", "\x02\x01\x40\x01\x01\x40",
		"\x00\x21" + strings.Repeat(root, 32) + "\x01", "\x00\x21" + strings.Repeat("\x01", 33), "\x00\xff" + strings.Repeat("\x01", 255),
		"\x00\x20" + strings.Repeat("\x01", 31), "\x00\x00\x01\x01\x40", "\x00\x00\x00\x01\x40",
	}
}

// P2.2
func TestWrongData(t *testing.T) {
	for _, p := range wrong() {
		if data.Right(p.kind, p.d) {
			t.Errorf("Right(%d, %q) is true", p.kind, p.d)
		}
		if text, e := data.Text(p.kind, p.d); text != "" || e != api.ErrData {
			t.Errorf("Text(%d, %q) = %q, %v", p.kind, p.d, text, e)
		}
	}
}

// P2.2: where a form does not run on to the end of the data no beginning of right data is right, and nothing may stand behind.
func TestJustTheForm(t *testing.T) {
	for _, p := range pairs() {
		switch p.kind {
		case api.TypeA, api.TypeAAAA, api.TypeNS, api.TypeCNAME, api.TypeDNAME, api.TypeSOA, api.TypeMX:
		default:
			continue
		}
		for size := range len(p.d) {
			if data.Right(p.kind, p.d[:size]) {
				t.Errorf("Right(%d, %q) is true", p.kind, p.d[:size])
			}
		}
		for _, more := range []string{root, "a", "\x01a\x00"} {
			if data.Right(p.kind, p.d+more) {
				t.Errorf("Right(%d, %q) is true", p.kind, p.d+more)
			}
		}
	}
}

// P2.2: data have at most 2000 bytes, whatever their form.
func TestMaxData(t *testing.T) {
	heads := []pair{
		{kind: api.TypeDS, d: "\x00\x01\x08\x02"}, {kind: api.TypeDNSKEY, d: "\x01\x01\x03\x08"}, {kind: api.TypeRRSIG, d: "\x00\x01" + sigNumbers + wire("x")},
		{kind: other}, {kind: api.TypeOPT}, {kind: 0},
	}
	for _, p := range heads {
		for _, size := range []int{1999, 2000, 2001, 2002, 65536} {
			checkSize(t, p.kind, p.d+fill(size-len(p.d)))
		}
	}
	for _, size := range []int{1999, 2000, 2001, 2002} {
		checkSize(t, api.TypeTXT, manyStrings(size))
		checkSize(t, api.TypeNSEC, windows(size-1, root))
		checkSize(t, api.TypeNSEC3, windows(size-7, "\x01\x00\x00\x01\x00\x01a"))
	}
}

// windows is a list of types of so many bytes behind a head: the last window has what is left.
func windows(count int, head string) string {
	for window := 0; count > 0; window++ {
		bits := min(32, count-2)
		if count-2-bits < 3 && count-2-bits > 0 { // too little for another window
			bits -= 3
		}
		head += string([]byte{byte(window), byte(bits)}) + strings.Repeat("\xff", bits)
		count -= 2 + bits
	}
	return head
}

func checkSize(t *testing.T, kind int, d string) {
	t.Helper()
	fits := len(d) <= 2000
	if data.Right(kind, d) != fits {
		t.Errorf("Right of %d bytes of type %d is %v", len(d), kind, !fits)
	}
	text, e := data.Text(kind, d)
	if !fits {
		if text != "" || e != api.ErrData {
			t.Errorf("Text of %d bytes of type %d: %d bytes, %v", len(d), kind, len(text), e)
		}
		return
	}
	if got, re := data.Read(kind, text); e != api.OK || re != api.OK || got != d {
		t.Errorf("%d bytes of type %d: %v, %v", len(d), kind, e, re)
	}
}

// P2.2, P2.3: what is no type.
func TestNoType(t *testing.T) {
	for _, kind := range noTypes() {
		for _, p := range append(pairs(), wrong()...) {
			if data.Right(kind, p.d) {
				t.Errorf("Right(%d, %q) is true", kind, p.d)
			}
			if text, e := data.Text(kind, p.d); text != "" || e != api.ErrArg {
				t.Errorf("Text(%d, %q) = %q, %v", kind, p.d, text, e)
			}
			if d, e := data.Read(kind, p.text); d != "" || e != api.ErrArg {
				t.Errorf("Read(%d, %q) = %q, %v", kind, p.text, d, e)
			}
			if list := data.Names(kind, p.d); len(list) != 0 || data.Lower(kind, p.d) != p.d {
				t.Errorf("%d, %q: %q, %q", kind, p.d, list, data.Lower(kind, p.d))
			}
		}
	}
}
