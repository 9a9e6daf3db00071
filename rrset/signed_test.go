package rrset_test

import (
	"math"
	"strings"
	"testing"

	"guidepost/api"
	"guidepost/rrset"
)

// sample is a signature of sets of A, of this many labels.
func sample(labels int) api.Sig {
	return api.Sig{Covered: api.TypeA, Alg: 8, Labels: labels, TTL: 3600, End: 200, Begin: 100, Tag: 513, Signer: x, Sign: "the sign"}
}

// P8.2: the chapter's example, byte by byte.
func TestSignedExample(t *testing.T) {
	want := "\x00\x01\x08\x01\x00\x00\x0e\x10\x00\x00\x00\xc8\x00\x00\x00\x64\x02\x01\x01x\x00" +
		"\x01*\x01x\x00\x00\x01\x00\x01\x00\x00\x0e\x10\x00\x04\x00\x00\x00\x07"
	if got, e := rrset.Signed(set(www, api.TypeA, 60, address(7)), sample(1)); got != want || e != api.OK {
		t.Errorf("%q %v", got, e)
	}
}

// P8.2, P8.4: names and Labels: what name is signed, and whose wildcard made the set.
func TestLabels(t *testing.T) {
	for _, c := range []struct {
		n      string
		labels int
		signed string // none: too many Labels
		wild   string // none: no wildcard made it
	}{
		{root, 0, root, ""},
		{root, 1, "", ""},
		{x, 1, x, ""},
		{x, 0, named("*"), root},
		{x, 2, "", ""},
		{www, 2, www, ""},
		{www, 1, named("*", "x"), x},
		{www, 0, named("*"), root},
		{www, 3, "", ""},
		{www, 255, "", ""},
		{named("A", "Bc", "D"), 3, named("a", "bc", "d"), ""},
		{named("A", "Bc", "D"), 2, named("*", "bc", "d"), named("Bc", "D")},
		{named("A", "Bc", "D"), 1, named("*", "d"), named("D")},
		{named("*"), 0, named("*"), ""},
		{named("*"), 1, "", ""},
		{named("*", "x"), 1, named("*", "x"), ""},
		{named("*", "X"), 0, named("*"), root},
		{named("*", "x"), 2, "", ""},
		{named("*", "A", "X"), 1, named("*", "x"), named("X")},
		{named("*", "*", "x"), 2, named("*", "*", "x"), ""},
		{named("*", "*", "x"), 1, named("*", "x"), x},
		{named("*", "*", "x"), 3, "", ""},
		{named("a", "*", "x"), 3, named("a", "*", "x"), ""},
		{named("a", "*", "x"), 2, named("*", "*", "x"), named("*", "x")},
		{named("**", "x"), 2, named("**", "x"), ""},
		{named("**", "x"), 1, named("*", "x"), x},
		{longest, 127, longest, ""},
		{longest, 126, "\x01*" + longest[2:], longest[2:]},
		{longest, 128, "", ""},
	} {
		s, g := set(c.n, api.TypeA, 60, address(7)), sample(c.labels)
		got, e := rrset.Signed(s, g)
		if c.signed == "" && (got != "" || e != api.ErrData) {
			t.Errorf("Signed of %q, %d: %q %v", c.n, c.labels, got, e)
		}
		if want := textSigned(g, c.signed, 1, 1, address(7)); c.signed != "" && (got != want || e != api.OK) {
			t.Errorf("Signed of %q, %d: %q %v, want %q", c.n, c.labels, got, e, want)
		}
		if wild, ok := rrset.Wild(s, g); wild != c.wild || ok != (c.wild != "") {
			t.Errorf("Wild of %q, %d: %q %v", c.n, c.labels, wild, ok)
		}
	}
}

// P8.2: Data in small letters where Lower makes them, in order by their bytes, each with its length; the numbers of the set and of the signature.
func TestSignedData(t *testing.T) {
	g := api.Sig{Covered: api.TypeNS, Alg: 255, Labels: 1, TTL: whole - 1, End: half, Begin: whole - 2, Tag: 65535, Signer: named("Sub", "X"), Sign: "\x00"}
	s := api.Set{Name: named("X"), Type: api.TypeNS, Class: 65534, TTL: 7, Data: []string{named("b"), named("Aa"), root, named("A", "z"), named("C")}}
	want := textSigned(g, x, api.TypeNS, 65534, root, named("a", "z"), named("b"), named("c"), named("aa"))
	if got, e := rrset.Signed(s, g); got != want || e != api.OK {
		t.Errorf("%q %v, want %q", got, e, want)
	}
	g.Covered = api.TypeTXT
	s = set(x, api.TypeTXT, 7, "\x02b\xff", "\x01b", "\x02B\x00", "\x01\x80", "\x01b\x00", "\x01B")
	want = textSigned(g, x, api.TypeTXT, 1, "\x01B", "\x01b", "\x01b\x00", "\x01\x80", "\x02B\x00", "\x02b\xff")
	if got, e := rrset.Signed(s, g); got != want || e != api.OK {
		t.Errorf("%q %v, want %q", got, e, want)
	}
	g.Covered = other
	long := strings.Repeat("L", 2000)
	want = textSigned(g, x, other, 1, "", "L", long)
	if got, e := rrset.Signed(set(x, other, 7, long, "", "L"), g); got != want || e != api.OK {
		t.Errorf("of 2000 bytes: %d bytes, %v, want %d", len(got), e, len(want))
	}
	g.Covered = api.TypeA
	want = textSigned(g, x, api.TypeA, 1, addresses(200)...)
	if got, e := rrset.Signed(set(x, api.TypeA, 7, addresses(200)...), g); got != want || e != api.OK {
		t.Errorf("of 200: %d bytes, %v, want %d", len(got), e, len(want))
	}
}

// P8.2: the bytes of Sign, and the set's Sigs, are not signed.
func TestSignedWithoutSign(t *testing.T) {
	s, g := set(x, api.TypeA, 60, address(1)), sample(1)
	want := textSigned(g, x, 1, 1, address(1))
	s.Sigs = sigsOf(t, api.TypeA, 3)
	for _, sign := range []string{"A", "\x00", x, strings.Repeat("z", 2000-18-len(x))} {
		g.Sign = sign
		if got, e := rrset.Signed(s, g); got != want || e != api.OK {
			t.Errorf("%q %v, want %q", got, e, want)
		}
	}
}

// P8.2: whatever is not right is ErrData, and nothing is signed.
func TestSignedWrong(t *testing.T) {
	good := set(www, api.TypeA, 60, address(1))
	wrong := func(why string, s api.Set, change func(*api.Sig)) {
		t.Helper()
		g := sample(2)
		change(&g)
		if got, e := rrset.Signed(s, g); got != "" || e != api.ErrData {
			t.Errorf("%s: %q %v", why, got, e)
		}
	}
	same := func(*api.Sig) {}
	for _, s := range []api.Set{
		{}, set("x", api.TypeA, 1, address(1)), set(www, api.TypeA, half, address(1)), set(www, api.TypeA, 1), set(www, api.TypeA, 1, address(1), address(1)),
		set(www, api.TypeA, 1, "abc"), set(www, api.TypeA, 1, addresses(201)...), {Name: www, Type: api.TypeA, Class: -1, Data: addresses(1)},
		{Name: www, Type: api.TypeA, Class: 1, Data: addresses(1), Sigs: []string{"?"}},
	} {
		wrong("a set that is not right", s, same)
	}
	wrong("RRSIG", set(www, api.TypeRRSIG, 1, sigOf(t, 1, 1)), func(g *api.Sig) { g.Covered = api.TypeRRSIG })
	wrong("OPT", set(www, api.TypeOPT, 1, ""), func(g *api.Sig) { g.Covered = api.TypeOPT })
	wrong("another type", good, func(g *api.Sig) { g.Covered = api.TypeAAAA })
	wrong("no Sign", good, func(g *api.Sig) { g.Sign = "" })
	wrong("too long a Sign", good, func(g *api.Sig) { g.Sign = strings.Repeat("z", 2000-18-len(x)+1) })
	for _, n := range []int{math.MinInt, -1, whole, math.MaxInt} {
		wrong("Covered", good, func(g *api.Sig) { g.Covered = n })
		wrong("Alg", good, func(g *api.Sig) { g.Alg = n })
		wrong("Labels", good, func(g *api.Sig) { g.Labels = n })
		wrong("TTL", good, func(g *api.Sig) { g.TTL = n })
		wrong("End", good, func(g *api.Sig) { g.End = n })
		wrong("Begin", good, func(g *api.Sig) { g.Begin = n })
		wrong("Tag", good, func(g *api.Sig) { g.Tag = n })
	}
	wrong("Alg 256", good, func(g *api.Sig) { g.Alg = 256 })
	wrong("Tag 65536", good, func(g *api.Sig) { g.Tag = 65536 })
	wrong("Covered 65537", good, func(g *api.Sig) { g.Covered = 65537 })
	for _, n := range wrongNames() {
		wrong("Signer", good, func(g *api.Sig) { g.Signer = n })
	}
}

// P8.4: Wild asks for a right set and for Labels alone.
func TestWild(t *testing.T) {
	good := set(www, api.TypeA, 60, address(1))
	if got, ok := rrset.Wild(good, api.Sig{Labels: 1}); got != x || !ok {
		t.Errorf("a signature of nothing but Labels: %q %v", got, ok)
	}
	if got, ok := rrset.Wild(good, api.Sig{Covered: -1, Alg: whole, TTL: -5, Signer: "?", Labels: 0}); got != root || !ok {
		t.Errorf("a signature that can't be told: %q %v", got, ok)
	}
	for _, labels := range []int{math.MinInt, -2, -1, 2, 3, 256, whole + 1, math.MaxInt} {
		if got, ok := rrset.Wild(good, api.Sig{Labels: labels}); got != "" || ok {
			t.Errorf("%d Labels: %q %v", labels, got, ok)
		}
	}
	for _, bad := range []api.Set{
		{}, set("\x03www\x01x", api.TypeA, 60, address(1)), set(www, api.TypeA, 60), set(www, api.TypeA, half, address(1)),
		set(www, api.TypeA, 60, address(1), address(1)), set(www, api.TypeRRSIG, 60, sigOf(t, 1, 1)),
	} {
		if got, ok := rrset.Wild(bad, sample(1)); got != "" || ok {
			t.Errorf("%+v: %q %v", bad, got, ok)
		}
	}
}
