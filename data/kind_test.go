package data_test

import (
	"strconv"
	"testing"

	"guidepost/api"
	"guidepost/data"
)

// ownTexts are the texts that types have of their own.
func ownTexts() map[int]string {
	return map[int]string{
		1: "A", 2: "NS", 5: "CNAME", 6: "SOA", 15: "MX", 16: "TXT", 28: "AAAA", 39: "DNAME", 41: "OPT", 43: "DS", 46: "RRSIG", 47: "NSEC", 48: "DNSKEY", 50: "NSEC3", 255: "ANY",
	}
}

// P2.1, P2.5
func TestTypes(t *testing.T) {
	own := ownTexts()
	for kind := range 1 << 16 {
		want := own[kind]
		if want == "" {
			want = "TYPE" + strconv.Itoa(kind)
		}
		if text, e := data.TypeText(kind); text != want || e != api.OK {
			t.Errorf("TypeText(%d) = %q, %v", kind, text, e)
		}
		if got, e := data.TypeOf(want); got != kind || e != api.OK {
			t.Errorf("TypeOf(%q) = %d, %v", want, got, e)
		}
	}
}

// P2.1
func TestTypeTextOfNone(t *testing.T) {
	for _, kind := range noTypes() {
		if text, e := data.TypeText(kind); text != "" || e != api.ErrArg {
			t.Errorf("TypeText(%d) = %q, %v", kind, text, e)
		}
	}
}

// P2.1
func TestTypeOfNone(t *testing.T) {
	texts := []string{
		"", "a", "ns", "Ns", "A ", " A", "A.", "TYPE", "TYPE070", "TYPE00", "TYPE65536", "TYPE-1", "TYPE+70", "TYPE-0", "TYPE 70", "TYPE70 ", " TYPE70", "type70", "Type70", "TYPEA", "TYPE0x46", "TYPE7_0",
		"TYPETYPE70", "70", "CLASS1", "TYPE18446744073709551686", "TYPE99999999999999999999", "TYPE70\x00", "PTR", "SRV", "NSEC33", "*",
	}
	for kind, text := range ownTexts() {
		texts = append(texts, "TYPE"+strconv.Itoa(kind), "TYPE"+text, text+text, text+"0")
	}
	for _, text := range texts {
		if text == "AAAA" {
			continue
		}
		if kind, e := data.TypeOf(text); kind != 0 || e != api.ErrText {
			t.Errorf("TypeOf(%q) = %d, %v", text, kind, e)
		}
	}
}
