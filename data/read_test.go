package data_test

import (
	"strings"
	"testing"

	"guidepost/api"
	"guidepost/data"
)

// wrongTexts are texts that no data of the type have.
func wrongTexts(kind int) []string {
	switch kind {
	case api.TypeA:
		return []string{
			"192.0.2.01", "192.00.2.1", "1.2.3", "1.2.3.", ".1.2.3", "1.2.3.4.", "1.2.3.4.5", "1..2.3", "256.0.0.0", "0.0.0.1000", "-1.0.0.0", "+1.0.0.0",
			"0x1.0.0.0", "1.2.3.a", " 1.2.3.4", "1.2.3.4 ", "1.2.3.4 5", "1. 2.3.4", "1.2.3.4\n", `\# 4 01020304`, "18446744073709551617.0.0.0", "1_0.0.0.0",
		}
	case api.TypeAAAA:
		return []string{
			"::1", "2001:DB8:0:0:0:0:0:1", "2001:0db8:0:0:0:0:0:1", "0:0:0:0:0:0:0", "0:0:0:0:0:0:0:0:0", "0:0:0:0:0:0:0:00", "0:0:0:0:0:0:0:10000", "0:0:0:0:0:0:0:g",
			"0:0:0:0:0:0:0:", ":0:0:0:0:0:0:0", "0:0:0:0:0:0:0.0.0.0", "0:0:0:0:0:0:0:-1", "0:0:0:0:0:0:0:0 ", "1.2.3.4",
		}
	case api.TypeNS, api.TypeCNAME, api.TypeDNAME:
		return []string{
			"ns.x", "ns..x.", ".x.", "..", "ns.x. ", " ns.x.", "ns.x. a.", "a b.", `\097.`, `\a.`, `\ .`, `\046.`, `\256.`, `\1.`, `a\`, "\x7f.", "a\x00.",
			strings.Repeat("x", 64) + ".", strings.Repeat("a.", 128), "\"a.\"",
		}
	case api.TypeSOA:
		return []string{
			"a. b. 1 2 3 4", "a. b. 1 2 3 4 5 6", "a. b. 1 2 3 4 4294967296", "a. b. 4294967296 2 3 4 5", "a. b. 01 2 3 4 5", "a. b. 1 2 3 4 05", "a b. 1 2 3 4 5",
			"a. b 1 2 3 4 5", "a. 1 2 3 4 5", "a. b. 1 2 3 4 -5", "a. b. 1 2 3 4 +5", "a.  b. 1 2 3 4 5", "a. b. 1 2 3 4 5 ", "a. b. 1  2 3 4 5", "a. b. 1 2 3 4 x",
			"a. b. 1 2 3 4 99999999999999999999",
		}
	case api.TypeMX:
		return []string{"10  m.", "10 m", "10", "10 ", "m.", "m. 10", "010 m.", "65536 m.", "-1 m.", "10 m. ", " 10 m.", "10 m. n.", "10\tm.", "1e1 m.", "00 m."}
	case api.TypeTXT:
		return []string{
			"a", `"a`, `a"`, `"`, `"a" `, ` "a"`, `"a"  "b"`, `"a""b"`, `"a"b`, `"a" b`, `"a\"`, `"\`, `"\1"`, `"\12"`, `"\256"`, `"\999"`, `"\097"`, `"\032"`, `"\126"`,
			`"\a"`, `"\ "`, `"\+12"`, `"\0x1"`, "\"\x00\"", "\"\x1f\"", "\"\x7f\"", "\"\x80\"", "\"\xff\"", `"\034"`, `"\092"`, `""""`, `\# 1 00`,
			`"` + strings.Repeat("y", 256) + `"`, `"` + strings.Repeat("y", 511) + `"`, `"` + strings.Repeat(`\255`, 256) + `"`,
		}
	}
	return wrongSignedTexts(kind)
}

func wrongSignedTexts(kind int) []string {
	switch kind {
	case api.TypeDS, api.TypeDNSKEY:
		return []string{
			"1 8 2 FF", "1 8 2 f", "1 8 2 fff", "1 8 2 fg", "1 8 2 g0", "1 8 2", "1 8 2 ", "1 8 2 -", "1 8 2 ff ", "1 8 2 ff ff", "1 8 2  ff", "01 8 2 ff", "1 08 2 ff", "1 8 02 ff",
			"65536 8 2 ff", "1 256 2 ff", "1 8 256 ff", "-1 8 2 ff", "1 8 ff", "1 8 2 0xff", "1 8 2 vv", `\# 5 0001080201`,
		}
	case api.TypeRRSIG:
		return []string{
			"A 8 2 60 2 1 7 x.", "A 8 2 60 2 1 7 x. ", "A 8 2 60 2 1 7 x. AB", "A 8 2 60 2 1 7 x. a", "A 8 2 60 2 1 7 x ab", "TYPE1 8 2 60 2 1 7 x. ab", "1 8 2 60 2 1 7 x. ab",
			"a 8 2 60 2 1 7 x. ab", "TYPE65536 8 2 60 2 1 7 x. ab", "A 256 2 60 2 1 7 x. ab", "A 8 256 60 2 1 7 x. ab", "A 8 2 4294967296 2 1 7 x. ab",
			"A 8 2 60 4294967296 1 7 x. ab", "A 8 2 60 2 4294967296 7 x. ab", "A 8 2 60 2 1 65536 x. ab", "A 08 2 60 2 1 7 x. ab", "A 8 2 60 02 1 7 x. ab",
			"A 8 2 60 2 1 x. ab", "A 8 2 60 2 1 7 x. ab cd", "A 8 2 60 2 1 7 x. ab ", " 8 2 60 2 1 7 x. ab",
		}
	case api.TypeNSEC:
		return []string{
			". MX A", ". A A", ". A  MX", ". A ", ". ", ".  A", "A", "x A", ". a", ". TYPE1", ". TYPE01", ". TYPE070", ". TYPE65536", ". TYPE", ". A,MX", ". TYPE256 ANY", ". TYPE300 TYPE299",
			". 1", ". A .",
		}
	case api.TypeNSEC3:
		return []string{
			"1 0 12 - vs MX A", "1 0 12 - vt", "1 0 12 - v", "1 0 12 - VS", "1 0 12 - vs0", "1 0 12 - vw", "1 0 12 - ", "1 0 12 -", "1 0 12 - -", "1 0 12 -  NS", "1 0 12  vs", "1 0 12 vs",
			"1 0 12 AB vs", "1 0 12 a vs", "1 0 12 -- vs", "1 0 12 -ab vs", "01 0 12 - vs", "1 00 12 - vs", "1 0 012 - vs", "256 0 12 - vs", "1 256 12 - vs", "1 0 65536 - vs", "1 0 12 - vs ",
			"1 0 12 - vs NS ", "1 0 12 - vs  NS", "1 0 12 - vs== NS", "1 0 12 " + strings.Repeat("ab", 256) + " vs", "1 0 12 - " + strings.Repeat("00000000", 52), "1 0 12 - v s",
		}
	}
	return []string{
		`\# 2 01`, `\# 0 01`, `\# 1 0101`, `\# 1 0`, `\# 1 000`, `\# 1 0A`, `\# 01 01`, `\# 1`, `\# 1 `, `\# 0 `, `\#`, `\# `, `\#  0`, `# 0`, `\\# 0`, `\# -0`, `\# +1 01`, `\# 1 01 `, `\# 2 01 02`,
		`\# 1 0g`, `\# x`, `01`, `x 0`, ` \# 0`, `\# 1  01`,
	}
}

// P2.2
func TestWrongTexts(t *testing.T) {
	for _, kind := range append(known(), other, api.TypeOPT, api.TypeANY, 0, 65535) {
		for _, text := range append(wrongTexts(kind), "", " ", "\x00", "x") {
			if d, e := data.Read(kind, text); d != "" || e != api.ErrText {
				t.Errorf("Read(%d, %q) = %q, %v", kind, text, d, e)
			}
		}
	}
}

// P2.2: a text by which more than 2000 bytes would be told tells nothing.
func TestTextsOfTooMuch(t *testing.T) {
	for _, p := range []pair{
		{other, fill(2000), `\# 2000 ` + strings.Repeat("ab", 2000)},
		{other, "", `\# 2001 ` + strings.Repeat("ab", 2001)},
		{api.TypeDS, "\x00\x01\x02\x03" + fill(1996), "1 2 3 " + strings.Repeat("ab", 1996)},
		{api.TypeDS, "", "1 2 3 " + strings.Repeat("ab", 1997)},
		{api.TypeTXT, strings.Repeat("\x07abcdefg", 250), strings.TrimSpace(strings.Repeat(`"abcdefg" `, 250))},
		{api.TypeTXT, "", strings.Repeat(`"abcdefg" `, 250) + `""`},
	} {
		want := api.OK
		if p.d == "" {
			want = api.ErrText
		}
		if d, e := data.Read(p.kind, p.text); d != p.d || e != want {
			t.Errorf("Read of %d bytes: %d bytes, %v", len(p.text), len(d), e)
		}
	}
}

// P2.2: a text tells data of one type, and of others that have the same form only.
func TestTextsOfOtherTypes(t *testing.T) {
	for _, p := range pairs() {
		for _, kind := range append(known(), other) {
			d, e := data.Read(kind, p.text)
			again, te := data.Text(kind, d)
			if e == api.OK && (te != api.OK || again != p.text) || e != api.OK && (e != api.ErrText || d != "") {
				t.Errorf("Read(%d, %q) = %q, %v; again %q, %v", kind, p.text, d, e, again, te)
			}
			if (kind == other) != strings.HasPrefix(p.text, `\#`) && (kind == other || p.kind == other) && e == api.OK {
				t.Errorf("Read(%d, %q) = %q", kind, p.text, d)
			}
		}
	}
}
