package rrset_test

import (
	"math"
	"slices"
	"strings"
	"testing"

	"guidepost/api"
	"guidepost/rrset"
)

// soa are data of SOA with these names.
func soa(primary, mail string) string {
	return primary + mail + strings.Repeat("\x00\x00\x00\x01", 5)
}

// P8.1: ordinary sets, and what a set may be at most and at least.
func TestRight(t *testing.T) {
	for why, s := range map[string]api.Set{
		"one":               set(www, api.TypeA, 60, address(1)),
		"two":               set(www, api.TypeA, 60, address(2), address(1)),
		"the root":          set(root, api.TypeNS, 60, x),
		"255 bytes":         set(longest, api.TypeA, 60, address(1)),
		"type 0":            set(x, 0, 60, ""),
		"type 65535":        set(x, 65535, 60, "any"),
		"type ANY":          set(x, api.TypeANY, 60, "any"),
		"class 0":           {Name: x, Type: api.TypeA, Class: 0, TTL: 60, Data: addresses(1)},
		"class 65535":       {Name: x, Type: api.TypeA, Class: 65535, TTL: 60, Data: addresses(1)},
		"TTL 0":             set(x, api.TypeA, 0, address(1)),
		"TTL 2^31 - 1":      set(x, api.TypeA, half-1, address(1)),
		"200 Data":          set(x, api.TypeA, 60, addresses(200)...),
		"2000 bytes":        set(x, other, 60, strings.Repeat("a", 2000)),
		"letters of TXT":    set(x, api.TypeTXT, 60, "\x01a", "\x01A"),
		"letters of NSEC":   set(x, api.TypeNSEC, 60, "\x01a\x00\x00\x01\x40", "\x01A\x00\x00\x01\x40"),
		"letters of others": set(x, other, 60, "\x01a\x00", "\x01A\x00"),
	} {
		if !rrset.Right(s) {
			t.Errorf("%s: not right", why)
		}
	}
}

// P8.1: sets that are just not right.
func TestNotRight(t *testing.T) {
	for why, s := range map[string]api.Set{
		"nothing":         {},
		"RRSIG":           set(x, api.TypeRRSIG, 60, sigOf(t, api.TypeA, 1)),
		"OPT":             set(root, api.TypeOPT, 60, ""),
		"no Data":         set(x, api.TypeA, 60),
		"empty Data":      set(x, api.TypeA, 60, []string{}...),
		"201 Data":        set(x, api.TypeA, 60, addresses(201)...),
		"three bytes":     set(x, api.TypeA, 60, "abc"),
		"the last is bad": set(x, api.TypeA, 60, address(1), address(2), "abc"),
		"the first one":   set(x, api.TypeA, 60, "", address(1)),
		"2001 bytes":      set(x, other, 60, strings.Repeat("a", 2001)),
		"twice":           set(x, api.TypeA, 60, address(1), address(1)),
		"twice, apart":    set(x, api.TypeA, 60, address(1), address(2), address(0), address(1)),
		"NS twice":        set(x, api.TypeNS, 60, named("a", "b"), named("a", "B")),
		"CNAME twice":     set(x, api.TypeCNAME, 60, named("a"), named("A")),
		"DNAME twice":     set(x, api.TypeDNAME, 60, named("A"), named("a")),
		"MX twice":        set(x, api.TypeMX, 60, "\x00\x01"+named("aB"), "\x00\x01"+named("Ab")),
		"SOA twice":       set(x, api.TypeSOA, 60, soa(named("A"), named("B")), soa(named("a"), named("b"))),
	} {
		if rrset.Right(s) {
			t.Errorf("%s: right", why)
		}
	}
	for _, n := range wrongNames() {
		if rrset.Right(set(n, api.TypeA, 60, address(1))) {
			t.Errorf("the name %q: right", n)
		}
	}
}

// P8.1: numbers out of their bounds.
func TestRightNumbers(t *testing.T) {
	for _, kind := range []int{math.MinInt, -1, 65536, 65536 + api.TypeA, 70000, whole + api.TypeA, math.MaxInt} {
		if rrset.Right(set(x, kind, 60, address(1))) {
			t.Errorf("the type %d: right", kind)
		}
	}
	for _, class := range []int{math.MinInt, -1, 65536, 65537, whole + 1, math.MaxInt} {
		if rrset.Right(api.Set{Name: x, Type: api.TypeA, Class: class, TTL: 60, Data: addresses(1)}) {
			t.Errorf("the class %d: right", class)
		}
	}
	for _, ttl := range []int{math.MinInt, -1, half, half + 1, whole - 1, whole, whole + 1, math.MaxInt} {
		if rrset.Right(set(x, api.TypeA, ttl, address(1))) {
			t.Errorf("the TTL %d: right", ttl)
		}
	}
}

// P8.1: Sigs of a right set, and of one that is not.
func TestRightSigs(t *testing.T) {
	good := sigsOf(t, api.TypeA, 201)
	for _, c := range []struct {
		why  string
		sigs []string
		want bool
	}{
		{"none", nil, true},
		{"an empty list", []string{}, true},
		{"one", good[:1], true},
		{"200", good[:200], true},
		{"201", good, false},
		{"one twice", []string{good[0], good[0]}, true},
		{"of another type", []string{sigOf(t, api.TypeAAAA, 1)}, false},
		{"the last of another type", []string{good[0], good[1], sigOf(t, api.TypeNS, 1)}, false},
		{"of RRSIG", []string{sigOf(t, api.TypeRRSIG, 1)}, false},
		{"no data", []string{""}, false},
		{"without Sign", []string{good[0][:len(good[0])-2]}, false},
		{"2000 bytes", []string{good[0] + strings.Repeat("a", 2000-len(good[0]))}, true},
		{"2001 bytes", []string{good[0] + strings.Repeat("a", 2001-len(good[0]))}, false},
	} {
		s := set(www, api.TypeA, 60, address(1))
		s.Sigs = c.sigs
		if got := rrset.Right(s); got != c.want {
			t.Errorf("%s: %v", c.why, got)
		}
	}
	s := set(www, 0, 60, "")
	for _, sign := range []string{"", "?", sigOf(t, 0, 1)[:21], good[0]} {
		s.Sigs = []string{sign}
		if rrset.Right(s) {
			t.Errorf("of the type 0: %q", sign)
		}
	}
	if s.Sigs = []string{sigOf(t, 0, 1)}; !rrset.Right(s) {
		t.Error("of the type 0: not right")
	}
}

// P8.1: Same asks for the name in any letters, the type, the class and the Data in any order and letters, and for nothing else.
func TestSame(t *testing.T) {
	s := set(www, api.TypeNS, 60, named("a", "b"), named("c"), named("d"))
	signed := set(named("WwW", "X"), api.TypeNS, 7, named("D"), named("A", "b"), named("c"))
	signed.Sigs = sigsOf(t, api.TypeNS, 2)
	for _, same := range []api.Set{s, set(www, api.TypeNS, 0, s.Data...), signed} {
		if !rrset.Same(s, same) || !rrset.Same(same, s) {
			t.Errorf("%+v: not the same", same)
		}
	}
	class := s
	class.Class = 3
	long := set(www, api.TypeNS, half, s.Data...)
	for why, o := range map[string]api.Set{
		"another name":  set(named("ww", "x"), api.TypeNS, 60, s.Data...),
		"a longer name": set(named("a", "www", "x"), api.TypeNS, 60, s.Data...),
		"another type":  set(www, api.TypeDNAME, 60, s.Data...),
		"another class": class,
		"fewer Data":    set(www, api.TypeNS, 60, s.Data[:2]...),
		"more Data":     set(www, api.TypeNS, 60, slices.Concat(s.Data, []string{named("e")})...),
		"other Data":    set(www, api.TypeNS, 60, named("a", "b"), named("c"), named("e")),
		"Data twice":    set(www, api.TypeNS, 60, named("a", "b"), named("c"), named("c")),
		"not right":     long,
		"nothing":       {},
	} {
		if rrset.Same(s, o) || rrset.Same(o, s) {
			t.Errorf("%s: the same", why)
		}
	}
	if rrset.Same(long, long) || rrset.Same(api.Set{}, api.Set{}) {
		t.Error("what is not right is the same as itself")
	}
	if rrset.Same(set(x, api.TypeTXT, 1, "\x01a"), set(x, api.TypeTXT, 1, "\x01A")) {
		t.Error("letters of TXT")
	}
}
