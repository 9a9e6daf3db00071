package acl_test

import (
	"math"
	"math/rand"
	"testing"

	"guidepost/acl"
	"guidepost/api"
)

// P13.2: which addresses a prefix holds: the last that differ in a bit that counts, the first that do in one that does not.
func TestHolds(t *testing.T) {
	for _, c := range []struct {
		prefix   string
		in, outs []string
	}{
		{"0.0.0.0/0", []string{"0.0.0.0", "127.255.255.255", "128.0.0.0", "255.255.255.255"}, []string{"::", "::1", "ffff::"}},
		{"0.0.0.0/1", []string{"0.0.0.0", "64.0.0.0", "127.255.255.255"}, []string{"128.0.0.0", "255.255.255.255", "::"}},
		{"128.0.0.0/1", []string{"128.0.0.0", "192.0.0.0", "255.255.255.255"}, []string{"0.0.0.0", "127.255.255.255", "8000::"}},
		{"10.0.0.0/8", []string{"10.0.0.0", "10.128.0.0", "10.1.2.3", "10.255.255.255"}, []string{"11.0.0.0", "9.255.255.255", "0.0.0.10", "138.0.0.0", "::10.0.0.0", "a00::"}},
		{"10.1.0.0/16", []string{"10.1.0.0", "10.1.128.0", "10.1.255.255"}, []string{"10.0.0.0", "10.0.255.255", "10.2.0.0"}},
		{"192.0.2.2/31", []string{"192.0.2.2", "192.0.2.3"}, []string{"192.0.2.0", "192.0.2.1", "192.0.2.4", "64.0.2.2"}},
		{"192.0.2.1/32", []string{"192.0.2.1"}, []string{"192.0.2.0", "192.0.2.2", "192.0.2.3", "64.0.2.1", "::192.0.2.1"}},
		{"255.255.255.255/32", []string{"255.255.255.255"}, []string{"255.255.255.254", "127.255.255.255"}},
		{"0.0.0.0/32", []string{"0.0.0.0"}, []string{"0.0.0.1", "128.0.0.0", "::"}},
		{"::/0", []string{"::", "::1", "8000::", "ffff:ffff:ffff:ffff:ffff:ffff:ffff:ffff"}, []string{"0.0.0.0", "255.255.255.255"}},
		{"::/1", []string{"::", "4000::", "7fff:ffff:ffff:ffff:ffff:ffff:ffff:ffff"}, []string{"8000::", "0.0.0.0"}},
		{"8000::/1", []string{"8000::", "c000::", "8000::1"}, []string{"::", "7fff::", "128.0.0.0"}},
		{"2001:db8::/31", []string{"2001:db8::", "2001:db9::"}, []string{"2001:dba::", "2001:db7::"}},
		{"2001:db8::/32", []string{"2001:db8::", "2001:db8:8000::"}, []string{"2001:db9::", "a001:db8::"}},
		{"2001:db8::/33", []string{"2001:db8::", "2001:db8:4000::"}, []string{"2001:db8:8000::", "2001:db9::"}},
		{"2001:db8:8000::/33", []string{"2001:db8:8000::", "2001:db8:c000::"}, []string{"2001:db8::"}},
		{"1:2:3:4::/63", []string{"1:2:3:4::", "1:2:3:5::", "1:2:3:5:ffff:ffff:ffff:ffff"}, []string{"1:2:3:6::", "1:2:3:3::"}},
		{"1:2:3:4::/64", []string{"1:2:3:4::", "1:2:3:4:8000::", "1:2:3:4:ffff:ffff:ffff:ffff"}, []string{"1:2:3:5::", "1:2:3:3:ffff::"}},
		{"1:2:3:4::/65", []string{"1:2:3:4::", "1:2:3:4:4000::", "1:2:3:4:7fff:ffff:ffff:ffff"}, []string{"1:2:3:4:8000::", "1:2:3:5::"}},
		{"1:2:3:4:8000::/65", []string{"1:2:3:4:8000::", "1:2:3:4:c000::"}, []string{"1:2:3:4::", "1:2:3:5:8000::"}},
		{"1::8/127", []string{"1::8", "1::9"}, []string{"1::a", "1::7", "::8"}},
		{"1::8/128", []string{"1::8"}, []string{"1::9", "1::", "::8", "8001::8", "1::8000:0:0:8"}},
		{"ffff:ffff:ffff:ffff:ffff:ffff:ffff:ffff/128", []string{"ffff:ffff:ffff:ffff:ffff:ffff:ffff:ffff"}, []string{"ffff:ffff:ffff:ffff:ffff:ffff:ffff:fffe"}},
		{"::/128", []string{"::"}, []string{"::1", "8000::", "0.0.0.0"}},
	} {
		p := prefix(c.prefix)
		for _, a := range c.in {
			if !acl.Holds(p, addr(a)) {
				t.Error(c.prefix, "does not hold", a)
			}
		}
		for _, a := range c.outs {
			if acl.Holds(p, addr(a)) {
				t.Error(c.prefix, "holds", a)
			}
		}
	}
}

// bad are prefixes that are not right.
func bad() []api.Prefix {
	list := []api.Prefix{
		{Addr: api.Addr{Hi: 1}}, {Addr: api.Addr{Hi: 1}, Bits: 32}, {Addr: api.Addr{Hi: 1 << 63}, Bits: 1}, {Addr: api.Addr{Lo: 1 << 32}}, {Addr: api.Addr{Lo: 1 << 32}, Bits: 31}, {Addr: api.Addr{Lo: 1 << 32}, Bits: 32}, {Addr: api.Addr{Lo: 1 << 63}, Bits: 1}, {Addr: api.Addr{Hi: 1}, Bits: 64},
		{Bits: math.MinInt}, {Bits: math.MaxInt}, {Bits: 1 << 32}, {Bits: 1<<32 + 8}, {Addr: api.Addr{V6: true}, Bits: math.MinInt}, {Addr: api.Addr{V6: true}, Bits: math.MaxInt}, {Addr: api.Addr{V6: true}, Bits: 1 << 32},
	}
	for _, text := range []string{
		"0.0.0.0/-1", "10.0.0.0/-8", "0.0.0.0/33", "10.0.0.0/33", "10.0.0.0/64", "10.0.0.0/128", "10.1.0.0/8", "10.0.0.1/8", "10.128.0.0/8", "10.0.0.1/31", "0.0.0.1/0", "128.0.0.0/0", "255.255.255.255/0", "64.0.0.0/1", "192.0.0.0/1", "0.0.0.1/31", "255.255.255.255/31",
		"::/-1", "::/129", "1::/129", "1::/256", "1::/15", "::1/0", "8000::/0", "::1/127", "::1/64", "::1/63", "::1/65", "4000::/1", "c000::/1", "::3/127", "0:0:0:1::/63", "0:0:0:3::/63", "0:0:0:1:8000::/64", "::8000:0:0:0/64", "::4000:0:0:0/65", "::c000:0:0:0/65", "1:0:0:1::/32", "0:0:8000::/32", "0:0:4000::/33", "ffff:ffff:ffff:ffff:ffff:ffff:ffff:ffff/127",
	} {
		list = append(list, prefix(text))
	}
	return list
}

// P13.2: what is not right holds nothing, and nothing holds it.
func TestHoldsOfWhatIsNotRight(t *testing.T) {
	for _, p := range bad() {
		for _, a := range []api.Addr{p.Addr, {}, {V6: true}, {Lo: p.Addr.Lo & 0xffffffff}, {V6: true, Hi: p.Addr.Hi, Lo: p.Addr.Lo}} {
			if acl.Holds(p, a) {
				t.Error(p, "holds", a)
			}
		}
	}
	for _, a := range []api.Addr{{Lo: 1 << 32}, {Hi: 1}, {Hi: 1 << 63, Lo: 7}, {Lo: math.MaxUint64}} {
		for _, p := range []string{"0.0.0.0/0", "::/0", "0.0.0.0/32", "0.0.0.0/1"} {
			if acl.Holds(prefix(p), a) {
				t.Error(p, "holds", a)
			}
		}
		if p := (api.Prefix{Addr: a, Bits: 32}); acl.Holds(p, a) {
			t.Error(p, "holds", a)
		}
	}
}

// P13.2: each prefix of an address, of each length, holds it; with any one bit changed only if that one does not count.
func TestHoldsBitByBit(t *testing.T) {
	for _, a := range []api.Addr{{Lo: 0xC0A80155}, {}, {Lo: 1<<32 - 1}, {V6: true}, {V6: true, Hi: 0x20010db8aaaa5555, Lo: 0x0123456789abcdef}, {V6: true, Hi: math.MaxUint64, Lo: math.MaxUint64}} {
		width := len(digits(a))
		for bits := range width + 1 {
			p := api.Prefix{Addr: a, Bits: bits}
			for at := bits; at < width; at++ {
				p.Addr = without(p.Addr, width-1-at)
			}
			for at := range width {
				if got := acl.Holds(p, turned(a, width-1-at)); got != (at >= bits) {
					t.Fatal(p, at, got)
				}
			}
			if !acl.Holds(p, a) || !acl.Holds(p, p.Addr) {
				t.Fatal(p, a)
			}
		}
	}
}

// turned is an address with another bit at a place (the lowest is 0), without one with 0 there.
func turned(a api.Addr, place int) api.Addr {
	if place < 64 {
		a.Lo ^= 1 << place
	} else {
		a.Hi ^= 1 << (place - 64)
	}
	return a
}

func without(a api.Addr, place int) api.Addr {
	if b := turned(a, place); b.Hi < a.Hi || b.Lo < a.Lo {
		return b
	}
	return a
}

// P13.2: a slow second reading says the same.
func TestHoldsAsRead(t *testing.T) {
	r := rand.New(rand.NewSource(133))
	held, not := 0, 0
	for range 100000 {
		p, a := drawnPrefix(r), drawnAddr(r)
		if got := acl.Holds(p, a); got != holds(p, a) {
			t.Fatal(p, a, got)
		} else if got {
			held++
		} else {
			not++
		}
	}
	if held < 5000 || not < 5000 {
		t.Error(held, not)
	}
}
