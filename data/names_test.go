package data_test

import (
	"slices"
	"strings"
	"testing"

	"guidepost/api"
	"guidepost/data"
)

// P2.3
func TestNamesAndLower(t *testing.T) {
	great, small := wire("Www", "EX"), wire("www", "ex")
	numbers := strings.Repeat("A", 20)
	signed := "\x00\x41" + strings.Repeat("A", 16)
	for _, c := range []struct {
		kind  int
		d     string
		names []string
		lower string
	}{
		{api.TypeNS, great, []string{great}, small},
		{api.TypeCNAME, great, []string{great}, small},
		{api.TypeDNAME, great, []string{great}, small},
		{api.TypeNS, root, []string{root}, root},
		{api.TypeNS, longName(), []string{longName()}, strings.ToLower(longName())},
		{api.TypeSOA, great + wire("Mail") + numbers, []string{great, wire("Mail")}, small + wire("mail") + numbers},
		{api.TypeSOA, wire("Z") + root + numbers, []string{wire("Z"), root}, wire("z") + root + numbers},
		{api.TypeMX, "\x41\x42" + great, []string{great}, "\x41\x42" + small},
		{api.TypeRRSIG, signed + great + "SIGN", nil, signed + small + "SIGN"},
		{api.TypeRRSIG, signed + root + great, nil, signed + root + great},
		{api.TypeNSEC, great, nil, great},
		{api.TypeNSEC, great + "\x00\x01A", nil, great + "\x00\x01A"},
		{api.TypeNSEC3, "ABCD\x02SA\x04NEXT\x00\x01A", nil, "ABCD\x02SA\x04NEXT\x00\x01A"},
		{api.TypeA, "ABCD", nil, "ABCD"},
		{api.TypeAAAA, strings.Repeat("A", 16), nil, strings.Repeat("A", 16)},
		{api.TypeTXT, "\x03ABC", nil, "\x03ABC"},
		{api.TypeDS, "ABCDEF", nil, "ABCDEF"},
		{api.TypeDNSKEY, "ABCDEF", nil, "ABCDEF"},
		{api.TypeOPT, great, nil, great},
		{api.TypeANY, great, nil, great},
		{other, great, nil, great},
		{other, "", nil, ""},
	} {
		if got := data.Names(c.kind, c.d); !slices.Equal(got, c.names) {
			t.Errorf("Names(%d, %q) = %q", c.kind, c.d, got)
		}
		if got := data.Lower(c.kind, c.d); got != c.lower {
			t.Errorf("Lower(%d, %q) = %q", c.kind, c.d, got)
		}
	}
}

// P2.3: of what is not right there are no names, and it stays as it is.
func TestNamesOfWrongData(t *testing.T) {
	list := append(wrong(), pair{kind: api.TypeRRSIG, d: "\x00\x41" + strings.Repeat("A", 16) + wire("X")})
	for _, kind := range []int{api.TypeNS, api.TypeCNAME, api.TypeDNAME, api.TypeSOA, api.TypeMX, api.TypeRRSIG} {
		list = append(list, pair{kind: kind, d: "ABCDEF"}, pair{kind: kind, d: "\x02AB"}, pair{kind: kind, d: wire("AB") + "X"}, pair{kind: kind, d: ""})
	}
	list = append(list, pair{kind: api.TypeRRSIG, d: "\x00\x41" + strings.Repeat("A", 16) + wire("X") + strings.Repeat("S", 2000)})
	for _, p := range list {
		if got := data.Names(p.kind, p.d); len(got) != 0 {
			t.Errorf("Names(%d, %q) = %q", p.kind, p.d, got)
		}
		if got := data.Lower(p.kind, p.d); got != p.d {
			t.Errorf("Lower(%d, %q) = %q", p.kind, p.d, got)
		}
	}
}

// P3: lists of two answers share nothing.
func TestNamesAreNew(t *testing.T) {
	d := wire("A") + wire("B") + soaNumbers
	first := data.Names(api.TypeSOA, d)
	first[0], first[1] = "x", "y"
	if got := data.Names(api.TypeSOA, d); !slices.Equal(got, []string{wire("A"), wire("B")}) {
		t.Errorf("%q", got)
	}
}
