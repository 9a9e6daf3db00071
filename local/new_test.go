package local_test

import (
	"math"
	"slices"
	"strconv"
	"strings"
	"testing"

	"guidepost/api"
	"guidepost/local"
)

// refused wants that zones may not be: alone, and ahead of, between and behind others.
func refused(t *testing.T, what string, bad ...api.Local) {
	t.Helper()
	before, behind := locals("static q.\na.q. 1 A 10.0.0.9\nredirect p."), locals("deny q.q.\ntransparent w.")
	for i, list := range [][]api.Local{bad, backward(bad), slices.Concat(before, bad), slices.Concat(bad, behind), slices.Concat(before, bad, behind)} {
		if x, e := local.New(list); x != nil || e != api.ErrConf {
			t.Errorf("%s (%d): %v, %v", what, i, x, e)
		}
	}
}

// taken wants that zones may be.
func taken(t *testing.T, what string, list ...api.Local) *local.Locals {
	t.Helper()
	x, e := local.New(list)
	if x == nil || e != api.OK {
		t.Fatalf("%s: %v, %v", what, x, e)
	}
	return x
}

// with is a zone with records.
func with(n string, kind int, list ...api.Record) api.Local {
	return api.Local{Name: named(n), Kind: kind, Records: list}
}

// changed is a good record of a.s. with something else in it.
func changed(change func(r *api.Record)) api.Record {
	r := record("a.s. 60 A 10.0.0.1")
	change(&r)
	return r
}

// spoiled wants that a record may not be in zones of both Kinds that have names, wherever it stands among good ones.
func spoiled(t *testing.T, what string, bad api.Record) {
	t.Helper()
	good := record("b.s. 60 TXT \"t\"")
	for _, kind := range []int{api.LStatic, api.LTransparent} {
		for _, list := range [][]api.Record{{bad}, {good, bad}, {bad, good}, {good, bad, good}} {
			refused(t, what, with("s.", kind, list...))
		}
	}
}

// P14.1: there may be no zones.
func TestNewOfNone(t *testing.T) {
	for _, list := range [][]api.Local{nil, {}} {
		x := taken(t, "no zones", list...)
		for _, n := range append(wrongNames(), named("."), named("s."), longest) {
			if got := answered(x, n, api.TypeA) + zoned(x, n); got != "Passnone" {
				t.Errorf("%q: %s", n, got)
			}
		}
	}
}

// P14.1: a zone's Name is a name.
func TestNewNames(t *testing.T) {
	for kind := api.LDeny; kind <= api.LRedirect; kind++ {
		for _, n := range wrongNames() {
			refused(t, strconv.Quote(n), api.Local{Name: n, Kind: kind})
		}
		for _, n := range []string{"\x00", longest, "\x3f" + strings.Repeat("a", 63) + "\x00", "\x01\x00\x00", "\x02..\x00", "\x01*\x01s\x00"} {
			x := taken(t, strconv.Quote(n), api.Local{Name: n, Kind: kind})
			if z, found := x.Zone(n); z != n || !found {
				t.Errorf("%q: %q, %v", n, z, found)
			}
		}
	}
}

// P14.1: a Kind is one of LDeny to LRedirect.
func TestNewKinds(t *testing.T) {
	for _, kind := range []int{0, 6, 7, -1, -2, -5, 257, 1<<32 + 3, math.MaxInt, math.MinInt} {
		refused(t, "kind "+strconv.Itoa(kind), with("s.", kind))
		refused(t, "kind "+strconv.Itoa(kind), with("s.", kind, record("s. 60 A 10.0.0.1")))
	}
	for kind := 1; kind <= 5; kind++ {
		taken(t, zoneKinds()[kind], with("s.", kind))
	}
}

// P14.1: no two zones have one name, in small letters, of whatever Kinds they are.
func TestNewOneName(t *testing.T) {
	for _, pair := range [][2]string{{"s.", "s."}, {"s.", "S."}, {"a.Bc.s.", "A.bC.s."}, {".", "."}, {`\200z.`, `\200Z.`}} {
		for one := api.LDeny; one <= api.LRedirect; one++ {
			for two := api.LDeny; two <= api.LRedirect; two++ {
				refused(t, pair[0]+" "+pair[1], with(pair[0], one), with(pair[1], two))
				refused(t, pair[0]+" far from "+pair[1], with(pair[0], one), with("m.", api.LStatic), with("n.", api.LDeny), with(pair[1], two))
			}
		}
	}
	for _, pair := range [][2]string{{"s.", "t."}, {"s.", "a.s."}, {"s.", "."}, {`\@.`, "`."}, {"[.", "{."}, {"ab.", "a.b."}, {`a\.b.`, "a.b."}, {`\193.`, `\225.`}} {
		taken(t, pair[0]+" "+pair[1], with(pair[0], api.LStatic), with(pair[1], api.LStatic))
	}
}

// P14.1: the root may be a zone, of any Kind.
func TestNewRoot(t *testing.T) {
	answers(t, locals("static .\na. 1 A 10.0.0.1"), want{"a. A", "Data, a. 1 A 10.0.0.1"}, want{"b. A", "Nobody"}, want{". A", "Empty"})
	answers(t, locals("transparent .\n. 1 A 10.0.0.1"), want{". A", "Data, . 1 A 10.0.0.1"}, want{"b. A", "Pass"}, want{". TXT", "Empty"})
	answers(t, locals("redirect .\n. 1 A 10.0.0.1"), want{". A", "Data, . 1 A 10.0.0.1"}, want{"b. A", "Data, b. 1 A 10.0.0.1"}, want{"b. TXT", "Empty"})
	answers(t, locals("deny ."), want{". A", "Drop"}, want{"a.b. A", "Drop"})
	answers(t, locals("refuse ."), want{". A", "Refuse"}, want{"a.b. A", "Refuse"})
}

// many are so many records of a name, each with other data.
func many(n string, count int) []api.Record {
	var list []api.Record
	for i := range count {
		list = append(list, api.Record{Name: named(n), Type: api.TypeA, Class: api.IN, TTL: 60, Data: string([]byte{10, 0, 0, byte(i)})})
	}
	return list
}

// P14.1: a zone has at most 200 records, in sets or not, the same or not; each zone for itself.
func TestNewCount(t *testing.T) {
	for _, kind := range []int{api.LStatic, api.LTransparent, api.LRedirect} {
		full := many("s.", 200)
		x := taken(t, "200", with("s.", kind, full...), with("t.", kind, many("t.", 200)...))
		if what, sets := x.Answer(named("s."), api.TypeA); what != local.Data || len(sets) != 1 || len(sets[0].Data) != 200 || sets[0].Data[199] != full[199].Data {
			t.Error(what, sets)
		}
		taken(t, "200 of one", with("s.", kind, slices.Repeat(full[:1], 200)...))
		refused(t, "201", with("s.", kind, many("s.", 201)...))
		refused(t, "201 of one", with("s.", kind, slices.Repeat(full[:1], 201)...))
		refused(t, "1000", with("s.", kind, slices.Repeat(full, 5)...))
	}
	several := append(many("a.s.", 100), many("b.s.", 100)...)
	taken(t, "100 of each of two names", with("s.", api.LStatic, several...))
	refused(t, "one more", with("s.", api.LStatic, append(several, record("c.s. 60 A 10.0.0.1"))...))
}

// P14.1: each record is of class IN, and lost by nobody.
func TestNewRecords(t *testing.T) {
	for _, class := range []int{0, 2, 3, 4, 254, 255, -1, 257, 65535, 65536, 65537, math.MaxInt, math.MinInt} {
		spoiled(t, "class "+strconv.Itoa(class), changed(func(r *api.Record) { r.Class = class }))
	}
	for _, ttl := range []int{-1, 1 << 32, math.MaxInt, math.MinInt} {
		spoiled(t, "TTL "+strconv.Itoa(ttl), changed(func(r *api.Record) { r.TTL = ttl }))
	}
	for _, kind := range []int{-1, 65536, 65537, math.MaxInt, math.MinInt} {
		spoiled(t, "type "+strconv.Itoa(kind), changed(func(r *api.Record) { r.Type = kind }))
	}
	for _, d := range []string{"", "abc", "abcde"} {
		spoiled(t, "data "+d, changed(func(r *api.Record) { r.Data = d }))
	}
	spoiled(t, "data of no name", changed(func(r *api.Record) { r.Type, r.Data = api.TypeNS, "\x01s" }))
	spoiled(t, "long data", changed(func(r *api.Record) { r.Type, r.Data = 65280, strings.Repeat("d", 2001) }))
	taken(t, "data as long as may be", with("s.", api.LStatic, changed(func(r *api.Record) { r.Type, r.Data = 65280, strings.Repeat("d", 2000) })))
	for _, kind := range []int{api.LStatic, api.LTransparent, api.LRedirect} {
		bad := changed(func(r *api.Record) { r.Name, r.Class = named("s."), 3 })
		refused(t, "class 3 at the name itself", with("s.", kind, bad))
		bad = changed(func(r *api.Record) { r.Name, r.Data = named("s."), "abc" })
		refused(t, "short data at the name itself", with("s.", kind, bad))
	}
}

// P14.1: TTLs that a set tells otherwise are no fault.
func TestNewTTLs(t *testing.T) {
	answers(t, locals("static s.\na.s. 2147483647 A 10.0.0.1\nb.s. 2147483648 A 10.0.0.1\nc.s. 4294967295 A 10.0.0.1\nd.s. 0 A 10.0.0.1\ne.s. 9 A 10.0.0.1\nE.s. 7 A 10.0.0.1"),
		want{"a.s. A", "Data, a.s. 2147483647 A 10.0.0.1"}, want{"b.s. A", "Data, b.s. 0 A 10.0.0.1"}, want{"c.s. A", "Data, c.s. 0 A 10.0.0.1"}, want{"d.s. A", "Data, d.s. 0 A 10.0.0.1"}, want{"e.s. A", "Data, e.s. 7 A 10.0.0.1"})
}

// P14.1: each record is under the zone's name, as labels go.
func TestNewUnder(t *testing.T) {
	for _, n := range append(wrongNames(), named("."), named("t."), named("as."), named("s.t."), named("a.s.t."), "\x03a\x01s\x00") {
		spoiled(t, strconv.Quote(n), changed(func(r *api.Record) { r.Name = n }))
	}
	refused(t, "above", with("b.s.", api.LStatic, record("s. 60 A 10.0.0.1")))
	refused(t, "beside", with("b.s.", api.LTransparent, record("c.s. 60 A 10.0.0.1")))
	for _, n := range []string{"s.", "S.", "a.s.", "A.S.", "a.b.c.S.", "*.s."} {
		for _, kind := range []int{api.LStatic, api.LTransparent} {
			taken(t, n, with("s.", kind, record(n+" 60 A 10.0.0.1")))
			taken(t, n, with("S.", kind, record(n+" 60 A 10.0.0.1")))
		}
	}
	r := changed(func(r *api.Record) { r.Name = longest })
	taken(t, "the longest name", with("s.", api.LStatic, r))
}

// P14.1: types that may not be, with right data; all others may.
func TestNewTypes(t *testing.T) {
	for _, line := range []string{"a.s. 60 CNAME b.s.", "a.s. 60 DNAME b.t.", `a.s. 60 OPT \# 0`, `a.s. 60 OPT \# 1 01`, "a.s. 60 RRSIG A 8 2 60 9 8 7 s. aa", "b.s. 60 RRSIG TXT 8 2 60 9 8 7 s. aa"} {
		spoiled(t, line, record(line))
		at := record("s." + line[4:])
		refused(t, line+" of a redirect", with("s.", api.LRedirect, at))
		refused(t, line+" beside A", with("s.", api.LRedirect, record("s. 60 A 10.0.0.1"), record("s. 60 TXT \"t\""), at))
	}
	signed := []api.Record{record("a.s. 60 A 10.0.0.1"), record("a.s. 60 RRSIG A 8 2 60 9 8 7 s. aa")}
	refused(t, "a signature of a set that is there", with("s.", api.LStatic, signed...))
	for _, line := range []string{"s. 60 NS a.", "s. 60 SOA a. b. 1 2 3 4 5", "s. 60 MX 1 a.", `s. 60 TXT "t"`, "s. 60 AAAA 0:0:0:0:0:0:0:1", "s. 60 DS 1 8 2 aa", "s. 60 NSEC a. A", "s. 60 DNSKEY 257 3 8 aa", "s. 60 NSEC3 1 0 0 - 00 A", `s. 60 ANY \# 0`, `s. 60 TYPE0 \# 0`, `s. 60 TYPE65535 \# 2 0102`, `s. 60 TYPE40 \# 0`, `s. 60 TYPE45 \# 0`} {
		r := record(line)
		for _, kind := range []int{api.LStatic, api.LTransparent, api.LRedirect} {
			x := taken(t, line, with("s.", kind, r))
			if got := answered(x, r.Name, r.Type); got != "Data, "+line {
				t.Error(line, got)
			}
		}
	}
}

// P14.1: LDeny and LRefuse have no records.
func TestNewSilent(t *testing.T) {
	for _, kind := range []int{api.LDeny, api.LRefuse} {
		for _, n := range []string{"s.", "a.s.", "t.", "."} {
			refused(t, n, with("s.", kind, record(n+" 60 A 10.0.0.1")))
			refused(t, n, with(".", kind, record(n+" 60 A 10.0.0.1")))
		}
		refused(t, "records that are none", with("s.", kind, api.Record{}))
		refused(t, "too many records", with("s.", kind, many("s.", 201)...))
		taken(t, "none", api.Local{Name: named("s."), Kind: kind}, api.Local{Name: named("t."), Kind: kind, Records: []api.Record{}})
	}
}

// P14.1: all records of LRedirect are of the zone's own name.
func TestNewRedirect(t *testing.T) {
	own, low := record("S. 60 A 10.0.0.1"), record("s. 60 TXT \"t\"")
	for _, n := range []string{"s.", "S."} {
		taken(t, "the name itself", with(n, api.LRedirect, own, low, own))
		for _, other := range []string{"a.s.", "A.S.", "*.s.", ".", "t.", "as."} {
			bad := record(other + " 60 A 10.0.0.1")
			refused(t, other, with(n, api.LRedirect, bad))
			refused(t, other, with(n, api.LRedirect, own, bad, low))
			refused(t, other, with(n, api.LRedirect, own, low, bad))
		}
	}
	taken(t, "no records", with("s.", api.LRedirect))
}
