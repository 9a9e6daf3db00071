package rrset_test

import (
	"encoding/base64"
	"math"
	"slices"
	"strings"
	"testing"

	"guidepost/api"
	"guidepost/rrset"
)

// trial is one call of Check.
type trial struct {
	s                api.Set
	sign, owner, key string
	now              int
}

func (c trial) check() api.Errno {
	return rrset.Check(c.s, c.sign, c.owner, c.key, c.now)
}

// wanted is a test of Check.
func (c trial) wanted(t *testing.T, why string, want api.Errno) {
	t.Helper()
	if got := c.check(); got != want {
		t.Errorf("%s: %d, want %d", why, got, want)
	}
}

// signing is how a signature is made: who signs, what the signature has but its Sign, and the set, under which name.
type signing struct {
	by signer
	g  api.Sig
	n  string
	s  api.Set
}

// trial is Check of what is signed, at a time when it holds.
func (c signing) trial(t *testing.T) trial {
	t.Helper()
	text := textSigned(c.g, c.n, c.s.Type, c.s.Class, c.s.Data...)
	return trial{c.s, c.by.of(t, c.g, text), c.g.Signer, c.by.data(t), 1000}
}

// ordinary is a signature of www.x. A by x.
func ordinary(t *testing.T, by signer) signing {
	g := api.Sig{Covered: api.TypeA, Alg: by.key.Alg, Labels: 2, TTL: 60, End: 2000, Begin: 500, Tag: by.tag(t), Signer: x}
	return signing{by, g, www, set(www, api.TypeA, 7, address(1), address(2))}
}

// P8.3: signatures of both algorithms that RFC 5702 (6.1) and RFC 6605 (6.1) tell.
func TestCheckExamples(t *testing.T) {
	unbase := func(text string) string {
		b, err := base64.StdEncoding.DecodeString(text)
		if err != nil {
			t.Fatal(err)
		}
		return string(b)
	}
	zone, n := named("example", "net"), named("www", "example", "net")
	for _, c := range []struct {
		address, key, sign string
		g                  api.Sig
	}{
		{"\xc0\x00\x02\x5b", "\x01\x00\x03\x08" + unbase("AwEAAcFcGsaxxdgiuuGmCkVImy4h99CqT7jwY3pexPGcnUFtR2Fh36BponcwtkZ4cAgtvd4Qs8PkxUdp6p/DlUmObdk="),
			"kRCOH6u7l0QGy9qpC9l1sLncJcOKFLJ7GhiUOibu4teYp5VE9RncriShZNz85mwlMgNEacFYK/lPtPiVYP4bwg==",
			api.Sig{Covered: api.TypeA, Alg: 8, Labels: 3, TTL: 3600, End: 0x70dbd880, Begin: 0x386d4380, Tag: 9033}},
		{"\xc0\x00\x02\x01", "\x01\x01\x03\x0d" + unbase("GojIhhXUN/u4v54ZQqGSnyhWJwaubCvTmeexv7bR6edbkrSqQpF64cYbcB7wNcP+e+MAnLr+Wi9xMWyQLc8NAA=="),
			"qx6wLYqmh+l9oCKTN6qIc+bw6ya+KJ8oMz0YP107epXAyGmt+3SNruPFKG7tZoLBLlUzGGus7ZwmwWep666VCw==",
			api.Sig{Covered: api.TypeA, Alg: 13, Labels: 3, TTL: 3600, End: 0x4c88b137, Begin: 0x4c63c737, Tag: 0xd960}},
	} {
		c.g.Signer, c.g.Sign = zone, unbase(c.sign)
		good := trial{set(n, api.TypeA, 7, c.address), dataOf(t, c.g), zone, c.key, c.g.Begin + 1}
		good.wanted(t, "the signature", api.OK)
		late, early, off := good, good, good
		late.now, early.now = c.g.End+1, c.g.Begin-1
		off.s.Data = []string{address(1)}
		late.wanted(t, "late", api.ErrTime)
		early.wanted(t, "early", api.ErrTime)
		off.wanted(t, "another address", api.ErrSign)
	}
}

// P8.3: what is signed by its key is good: in any order and letters, by any name above, by a wildcard, in any class.
func TestCheckGood(t *testing.T) {
	for _, by := range []signer{rsaSigner(1), curveSigner(t, 1)} {
		good := ordinary(t, by)
		good.trial(t).wanted(t, "ordinary", api.OK)
		for _, zone := range []string{root, x, www, named("WWW", "X")} {
			c := good
			c.g.Signer = zone
			c.trial(t).wanted(t, "by "+zone, api.OK)
		}
		c := good.trial(t)
		c.s.Name, c.s.TTL, c.s.Data, c.owner = named("wwW", "X"), half-1, []string{address(2), address(1)}, named("X")
		c.wanted(t, "in other letters", api.OK)
		c.s.Sigs = sigsOf(t, api.TypeA, 2)
		c.wanted(t, "with other Sigs", api.OK)
		wild := good
		wild.g.Labels, wild.n = 1, named("*", "x")
		wild.trial(t).wanted(t, "by a wildcard", api.OK)
		wild.s.Name = named("a", "b", "x")
		wild.trial(t).wanted(t, "by a wildcard further up", api.OK)
		wild.s.Name = named("*", "x")
		wild.trial(t).wanted(t, "the wildcard itself", api.OK)
		class := good
		class.s.Class = 3
		class.trial(t).wanted(t, "of another class", api.OK)
		for _, flags := range []int{256, 257, 384, 65535} {
			c := ordinary(t, by.with(func(k *api.Key) { k.Flags = flags }))
			c.trial(t).wanted(t, "with other flags", api.OK)
		}
	}
}

// P8.3: ErrData: a set, a signature or a time that is not right.
func TestCheckData(t *testing.T) {
	good := ordinary(t, rsaSigner(1)).trial(t)
	long, twice := set(www, api.TypeA, half, good.s.Data...), set(www, api.TypeA, 7, address(1), address(2), address(1))
	signed := good.s
	signed.Sigs = []string{sigOf(t, api.TypeNS, 1)}
	for _, s := range []api.Set{{}, long, twice, signed, set(www, api.TypeA, 7), set("www.x.", api.TypeA, 7, good.s.Data...), set(www, api.TypeOPT, 7, good.s.Data...)} {
		c := good
		c.s = s
		c.wanted(t, "a set that is not right", api.ErrData)
	}
	for _, sign := range []string{"", "?", good.sign[:17], good.sign[:21], good.sign + strings.Repeat("z", 2001-len(good.sign))} {
		c := good
		c.sign = sign
		c.wanted(t, "a signature that is not right", api.ErrData)
	}
	for _, now := range []int{math.MinInt, -1, whole, whole + 1000, math.MaxInt} {
		c := good
		c.now = now
		c.wanted(t, "a time that is none", api.ErrData)
	}
}

// P8.3: ErrKey: a key that is none, that may not sign, or that the signature does not point at, though it made it.
func TestCheckKey(t *testing.T) {
	for _, by := range []signer{rsaSigner(1), curveSigner(t, 1)} {
		good := ordinary(t, by)
		for _, key := range []string{"", "\x01\x00\x03", "\x01\x00\x03\x08", good.trial(t).key + strings.Repeat("z", 2000)} {
			c := good.trial(t)
			c.key = key
			c.wanted(t, "a key that is none", api.ErrKey)
		}
		for _, flags := range []int{0, 1, 255, 512, 65535 - 256} {
			c := ordinary(t, by.with(func(k *api.Key) { k.Flags = flags }))
			c.trial(t).wanted(t, "flags", api.ErrKey)
		}
		for _, protocol := range []int{0, 2, 4, 255} {
			c := ordinary(t, by.with(func(k *api.Key) { k.Protocol = protocol }))
			c.trial(t).wanted(t, "a protocol", api.ErrKey)
		}
		for _, alg := range []int{0, 5, 8 + 13 - by.key.Alg, 255} {
			c := good
			c.g.Alg = alg
			c.trial(t).wanted(t, "another Alg of the signature", api.ErrKey)
			c = good
			c.by = by.with(func(k *api.Key) { k.Alg = alg })
			c.g.Tag = c.by.tag(t)
			c.trial(t).wanted(t, "another Alg of the key", api.ErrKey)
		}
		for _, tag := range []int{0, by.tag(t) + 1, by.tag(t) ^ 256, by.tag(t) - 1} {
			c := good
			c.g.Tag = tag
			c.trial(t).wanted(t, "another Tag", api.ErrKey)
		}
		for _, owner := range append(wrongNames(), root, www, named("y"), named("a", "x")) {
			c := good.trial(t)
			c.owner = owner
			c.wanted(t, "another owner", api.ErrKey)
		}
	}
}

// P8.3: ErrSign: a signature, well made, of a name that is not the signer's, of another type, or of more labels than there are.
func TestCheckSign(t *testing.T) {
	for _, by := range []signer{rsaSigner(1), curveSigner(t, 1)} {
		good := ordinary(t, by)
		for _, zone := range []string{named("y"), named("a", "www", "x"), named("ww", "x"), named("ww"), named("www")} {
			c := good
			c.g.Signer = zone
			c.trial(t).wanted(t, "of another zone", api.ErrSign)
		}
		for _, kind := range []int{0, api.TypeNS, api.TypeRRSIG, other, 256 + api.TypeA} {
			c := good
			c.g.Covered = kind
			c.trial(t).wanted(t, "of another type", api.ErrSign)
		}
		for _, labels := range []int{3, 4, 255} {
			c := good
			c.g.Labels = labels
			c.trial(t).wanted(t, "too many Labels", api.ErrSign)
		}
		wild := good
		wild.n, wild.s.Name = named("*", "x"), named("*", "x")
		wild.trial(t).wanted(t, "a label *, counted", api.ErrSign)
		fewer := good
		fewer.g.Labels = 1
		fewer.trial(t).wanted(t, "fewer Labels, but the whole name signed", api.ErrSign)
	}
}

// P8.3: ErrSign: a signature that its key did not make of this set.
func TestCheckVerified(t *testing.T) {
	for _, by := range []signer{rsaSigner(1), curveSigner(t, 1)} {
		good := ordinary(t, by).trial(t)
		turned := func(s string, at int) string { return s[:at] + string([]byte{s[at] ^ 1}) + s[at+1:] }
		head := len(good.sign) - 64
		for at := head; at < len(good.sign); at += 21 {
			c := good
			c.sign = turned(good.sign, at)
			c.wanted(t, "a byte of Sign", api.ErrSign)
		}
		for _, at := range []int{4, 7} {
			c := good
			c.sign = turned(good.sign, at)
			c.wanted(t, "a byte of the signature's TTL", api.ErrSign)
		}
		for _, sign := range []string{good.sign[:len(good.sign)-1], good.sign + "\x00", good.sign[:head] + "\x00"} {
			c := good
			c.sign = sign
			c.wanted(t, "a longer, a shorter Sign", api.ErrSign)
		}
		for _, s := range []api.Set{
			set(www, api.TypeA, 7, address(1)), set(www, api.TypeA, 7, address(1), address(3)), set(www, api.TypeA, 7, address(1), address(2), address(3)),
			set(named("wwv", "x"), api.TypeA, 7, good.s.Data...), {Name: www, Type: api.TypeA, Class: 2, TTL: 7, Data: good.s.Data},
		} {
			c := good
			c.s = s
			c.wanted(t, "another set", api.ErrSign)
		}
	}
}

// P8.3: another key's signature is none, and other algorithms than 8 and 13 are never verified, whatever was signed.
func TestCheckAlgs(t *testing.T) {
	rsa, point := rsaSigner(1), curveSigner(t, 1)
	for _, c := range []struct{ key, by signer }{
		{rsa, rsaSigner(2)}, {point, curveSigner(t, 2)}, {rsa, point}, {point, rsa},
	} {
		c.by.key = c.key.key
		ordinary(t, c.by).trial(t).wanted(t, "another secret", api.ErrSign)
	}
	for _, by := range []signer{rsa, point} {
		for _, alg := range []int{0, 1, 3, 5, 6, 7, 8, 9, 10, 12, 13, 14, 15, 16, 253, 255} {
			want := api.ErrSign
			if alg == by.key.Alg {
				want = api.OK
			}
			c := ordinary(t, by.with(func(k *api.Key) { k.Alg = alg }))
			c.trial(t).wanted(t, "another algorithm", want)
		}
	}
	bad := ordinary(t, rsa.with(func(k *api.Key) { k.Public = "?" }))
	bad.trial(t).wanted(t, "a public key that is none", api.ErrSign)
}

// P8.3: times, as they wrap round.
func TestCheckTime(t *testing.T) {
	by := rsaSigner(1)
	for _, c := range []struct {
		begin, end int
		good, late []int
	}{
		{500, 2000, []int{500, 501, 1999, 2000}, []int{0, 499, 2001, half, half + 499, half + 500, half + 501, half + 1999, half + 2000, half + 2001, whole - 1}},
		{0, 0, []int{0}, []int{1, half - 1, half + 1, whole - 1}},
		{whole - 1, whole - 1, []int{whole - 1}, []int{0, 1, half - 2, half, whole - 2}},
		{whole - 10, 100, []int{whole - 10, whole - 9, whole - 1, 0, 1, 99, 100}, []int{101, whole - 11, half, half - 10, half - 11, half - 9, half + 100, half + 101}},
		{whole - 1, 0, []int{whole - 1, 0}, []int{1, whole - 2, half - 1, half}},
		{0, half - 1, []int{0, 1, half - 2, half - 1}, []int{half, half + 1, whole - 1}},
		{half - 1, half, []int{half - 1, half}, []int{half - 2, half + 1, 0, whole - 1}},
		{half + 5, 4, []int{half + 5, whole - 1, 0, 4}, []int{5, 6, half, half + 4}},
		// The end is just half a round behind the beginning: neither is before the other.
		{100, half + 100, []int{100, 101, half, half + 99, half + 100}, []int{0, 99, half + 101, whole - 1}},
		// The time is just half a round off the beginning and the end: it is neither before the one nor behind the other.
		{7, 7, []int{7, half + 7}, []int{6, 8, half + 6, half + 8}},
		// The end is before the beginning.
		{2000, 500, nil, []int{0, 499, 500, 501, 1999, 2000, 2001, half + 500, half + 1000, half + 2000, whole - 1}},
		{1, 0, nil, []int{0, 1, 2, half - 1, half, half + 1, half + 2, whole - 1}},
		{0, whole - 1, nil, []int{whole - 2, whole - 1, 0, 1, half - 1, half}},
		{100, half + 101, nil, []int{99, 100, 101, half + 99, half + 100, half + 101, half + 102}},
	} {
		s := ordinary(t, by)
		s.g.Begin, s.g.End = c.begin, c.end
		at := s.trial(t)
		for _, at.now = range c.good {
			if e := at.check(); e != api.OK {
				t.Errorf("from %d to %d, at %d: %d", c.begin, c.end, at.now, e)
			}
		}
		for _, at.now = range c.late {
			if e := at.check(); e != api.ErrTime {
				t.Errorf("from %d to %d, at %d: %d", c.begin, c.end, at.now, e)
			}
		}
	}
}

// fault is something wrong, in what is signed or in how it is asked of Check.
type fault struct {
	want api.Errno
	made func(*signing)
	then func(*trial)
}

// faults are in the order in which the promise names them, a row for each of its steps.
func faults() [][]fault {
	made := func(want api.Errno, change func(*signing)) fault { return fault{want, change, func(*trial) {}} }
	then := func(want api.Errno, change func(*trial)) fault { return fault{want, func(*signing) {}, change} }
	return [][]fault{
		{
			then(api.ErrData, func(c *trial) { c.s.TTL = -1 }),
			then(api.ErrData, func(c *trial) { c.sign = c.sign[:21] }),
			then(api.ErrData, func(c *trial) { c.now = -1 }),
		}, {
			then(api.ErrKey, func(c *trial) { c.key = "" }),
			then(api.ErrKey, func(c *trial) { c.owner = named("y") }),
			made(api.ErrKey, func(s *signing) { s.g.Tag = (s.g.Tag + 1) % 65536 }),
			made(api.ErrKey, func(s *signing) { s.g.Alg = 13 }),
		}, {
			then(api.ErrSign, func(c *trial) { c.s.Name = named("www", "y") }),
			made(api.ErrSign, func(s *signing) { s.g.Covered = api.TypeNS }),
			made(api.ErrSign, func(s *signing) { s.g.Labels = 3 }),
		}, {
			made(api.ErrTime, func(s *signing) { s.g.End = 999 }),
			made(api.ErrTime, func(s *signing) { s.g.Begin = 1001 }),
			made(api.ErrTime, func(s *signing) { s.g.Begin, s.g.End = 2000, 500 }),
		}, {
			then(api.ErrSign, func(c *trial) { c.s.Data = c.s.Data[:1] }),
		},
	}
}

// P8.3: of two faults that of the earlier step is told.
func TestCheckOrder(t *testing.T) {
	by, rows := rsaSigner(1), faults()
	for i, row := range rows {
		for _, first := range row {
			for _, second := range slices.Concat(rows[i:]...) {
				s := ordinary(t, by)
				first.made(&s)
				second.made(&s)
				c := s.trial(t)
				first.then(&c)
				second.then(&c)
				if got := c.check(); got != first.want {
					t.Errorf("steps %d and on: %d, want %d", i, got, first.want)
				}
			}
		}
	}
}
