package zone_test

import (
	"reflect"
	"slices"
	"strconv"
	"strings"
	"testing"

	"guidepost/api"
	"guidepost/rrset"
	"guidepost/zone"
)

// judged holds Right, Sets and Lookup's and Reply's ErrZone against whether a zone is right.
func judged(t *testing.T, why string, z api.Zone, right bool) {
	t.Helper()
	if got := zone.Right(z); got != right {
		t.Errorf("%s: Right is %v", why, got)
	}
	sets := rrset.Sets(z.Records)
	if !right {
		sets = nil
	}
	if got := zone.Sets(z); len(got) != len(sets) || len(sets) > 0 && !reflect.DeepEqual(got, sets) {
		t.Errorf("%s: Sets is %+v", why, got)
	}
	m := api.Message{Ask: []api.Question{{Name: named("x."), Type: 1, Class: 1}}}
	a, e := zone.Lookup(z, named("x."), 1, true)
	s, f := zone.Reply(z, m, 512)
	if right && (e != api.OK || f != api.OK || a.Kind == 0 || s == "") {
		t.Errorf("%s: Lookup tells %v, Reply %v", why, e, f)
	}
	if !right && (e != api.ErrZone || f != api.ErrZone || !reflect.DeepEqual(a, zone.Answer{}) || s != "") {
		t.Errorf("%s: Lookup tells %+v, %v, Reply %q, %v", why, a, e, s, f)
	}
}

// with judges the zone x. with more records.
func with(t *testing.T, right bool, lists ...string) {
	t.Helper()
	for _, more := range lists {
		judged(t, more, zoneOf("x.", base+more), right)
	}
}

// P10.1: zones that are right, and their sets.
func TestRight(t *testing.T) {
	judged(t, "the example", zoneOf("x.", example), true)
	judged(t, "the least one", zoneOf("x.", base), true)
	judged(t, "in other letters", zoneOf("X.", base+"WWW.x. 60 A 1.2.3.4\nwww.X. 60 A 1.2.3.5"), true)
	judged(t, "the root", zoneOf(".", ". 60 SOA a. b. 1 2 3 4 5\n. 60 NS ns.x.\nx. 60 NS ns.x.\nns.x. 60 A 1.2.3.4"), true)
	judged(t, "a longer apex", zoneOf("b.x.", "b.x. 60 SOA a. b. 1 2 3 4 5\nb.x. 60 NS ns.x.\na.B.x. 60 TXT \"a\""), true)
	judged(t, "signatures ahead", zoneOf("x.", sign("x.", "SOA", "aa")+sign("X.", "SOA", "bb")+sign("x.", "NS", "aa")+base), true)
	sets := zone.Sets(zoneOf("x.", example+sign("www.x.", "A", "aa")+"WWW.x. 50 A 10.0.0.9"))
	if len(sets) != 7 || told(sets[2]) != "www.x. 50 A 10.0.0.1 10.0.0.9 AA" {
		t.Errorf("%+v", sets)
	}
}

// P10.1: the Apex is a name; of what is none, or of no records, nothing is right.
func TestRightApexName(t *testing.T) {
	for _, apex := range wrongNames() {
		z := zoneOf("x.", base)
		z.Apex = apex
		judged(t, "an apex that is none", z, false)
		for i := range z.Records {
			z.Records[i].Name = apex
		}
		judged(t, "its records, too", z, false)
	}
	judged(t, "nothing", api.Zone{}, false)
	judged(t, "no records", api.Zone{Apex: named("x.")}, false)
}

// P10.1: 200 records and no more, however many sets they make, and also where one of them is there twice.
func TestRightCount(t *testing.T) {
	for _, one := range []func(i int) string{
		func(i int) string { return "www.x. 60 A 10.0.0." + strconv.Itoa(i) },
		func(i int) string { return "w" + strconv.Itoa(i) + ".x. 60 A 10.0.0.1" },
		func(i int) string { return sign("x.", "SOA", strconv.Itoa(1000+i)) },
		func(i int) string { return "www.x. 60 A 10.0.0.1" },
	} {
		var list []string
		for i := range 198 {
			list = append(list, one(i))
		}
		z := zoneOf("x.", base+strings.Join(list, "\n"))
		judged(t, "200 records", z, true)
		z.Records = append(z.Records, record("x. 60 NS ns.x."))
		judged(t, "201 records", z, false)
	}
}

// P10.1: each record is right, and of class IN; what Sets loses may not be there.
func TestRightRecords(t *testing.T) {
	good := record("www.x. 60 A 10.0.0.1")
	signed := record("www.x. 60 RRSIG A 8 1 60 9 8 7 x. aa")
	change := func(change func(*api.Record)) []api.Record {
		list := []api.Record{good, signed, good, signed}
		change(&list[2])
		change(&list[3])
		return list
	}
	var bad [][]api.Record
	for _, n := range wrongNames() {
		bad = append(bad, change(func(x *api.Record) { x.Name = n }))
	}
	for _, class := range []int{0, 3, 254, 255, 256 + 1, -1, 65536, 65537, -1 << 63, 1<<63 - 1} {
		bad = append(bad, change(func(x *api.Record) { x.Class = class }))
	}
	for _, ttl := range []int{-1, whole, -1 << 63, 1<<63 - 1} {
		bad = append(bad, change(func(x *api.Record) { x.TTL = ttl }))
	}
	for _, d := range []string{"", "abc", "abcde"} {
		bad = append(bad, change(func(x *api.Record) { x.Data = d }))
	}
	for _, kind := range append(wrongNumbers(), api.TypeNS, api.TypeOPT, api.TypeAAAA) {
		bad = append(bad, change(func(x *api.Record) { x.Type = kind }))
	}
	for _, list := range bad {
		for _, one := range list[2:] {
			z := zoneOf("x.", base)
			z.Records = append(z.Records, good, signed, one)
			judged(t, "a record that is not right", z, false)
		}
	}
	for _, ttl := range []int{0, half - 1, half, whole - 1} {
		z := zoneOf("x.", base)
		z.Records = append(z.Records, change(func(x *api.Record) { x.TTL = ttl })...)
		judged(t, "a TTL of "+strconv.Itoa(ttl), z, true)
	}
}

// P10.1: types of which nothing is known are right, and so are data of up to 2000 bytes; OPT is not.
func TestRightTypes(t *testing.T) {
	for _, kind := range []int{0, 7, other, 65535, api.TypeANY} {
		z := zoneOf("x.", base)
		z.Records = append(z.Records, api.Record{Name: named("a.x."), Type: kind, Class: 1, Data: strings.Repeat("?", 2000)})
		judged(t, "type "+strconv.Itoa(kind), z, true)
		z.Records[2].Data += "?"
		judged(t, "longer data", z, false)
		z.Records[2].Data, z.Records[2].Type = "", api.TypeOPT
		judged(t, "an OPT", z, false)
	}
}

// P10.1: a signature without what it signs is lost.
func TestRightSigns(t *testing.T) {
	with(t, true, sign("x.", "NS", "aa"), sign("X.", "SOA", "aa")+sign("x.", "SOA", "aa"), "a.x. 60 TXT \"a\""+sign("a.x.", "TXT", "aa"))
	with(t, false, sign("x.", "A", "aa"), sign("a.x.", "NS", "aa"), sign("x.", "RRSIG", "aa"), sign("x.", "OPT", "aa"), sign("x.", "ANY", "aa"),
		sign("x.", "NS", "aa")+sign("x.", "RRSIG", "aa"), "a.x. 60 TXT \"a\""+sign("a.x.", "A", "aa"), "a.b.x. 60 TXT \"a\""+sign("b.x.", "TXT", "aa"))
}

// P10.1: the names of records are under the Apex.
func TestRightUnder(t *testing.T) {
	with(t, true, "a.b.c.X. 60 A 1.2.3.4", "x.x. 60 A 1.2.3.4")
	with(t, false, "y. 60 A 1.2.3.4", ". 60 A 1.2.3.4", "ax. 60 A 1.2.3.4", "x.y. 60 A 1.2.3.4", "a\\001x. 60 A 1.2.3.4")
	judged(t, "the parent of a longer apex", zoneOf("b.x.", "b.x. 60 SOA a. b. 1 2 3 4 5\nb.x. 60 NS ns.x.\nx. 60 A 1.2.3.4"), false)
	judged(t, "signatures of the parent", zoneOf("b.x.", "b.x. 60 SOA a. b. 1 2 3 4 5\nb.x. 60 NS ns.x."+sign("x.", "NS", "aa")), false)
}

// P10.1: the Apex has just one SOA and an NS; SOA is nowhere else.
func TestRightApex(t *testing.T) {
	soa, ns := "x. 60 SOA ns.x. m.x. 1 2 3 4 5\n", "x. 60 NS ns.x.\n"
	judged(t, "both", zoneOf("x.", ns+soa), true)
	judged(t, "no SOA", zoneOf("x.", ns+"x. 60 A 1.2.3.4"), false)
	judged(t, "no NS", zoneOf("x.", soa+"x. 60 A 1.2.3.4"), false)
	judged(t, "both elsewhere", zoneOf("x.", "a.x. 60 NS ns.x.\na.x. 60 SOA ns.x. m.x. 1 2 3 4 5"), false)
	judged(t, "NS elsewhere", zoneOf("x.", soa+"a.x. 60 NS ns.x."), false)
	with(t, true, soa, "X. 60 SOA NS.x. M.x. 1 2 3 4 5", "x. 5 NS a.\nx. 60 NS b.")
	with(t, false, "x. 60 SOA ns.x. m.x. 2 2 3 4 5", "x. 60 SOA ns.x. m.x. 1 2 3 4 6", "x. 60 SOA ns.y. m.x. 1 2 3 4 5", "a.x. 60 SOA ns.x. m.x. 1 2 3 4 5", "*.x. 60 SOA ns.x. m.x. 1 2 3 4 5")
}

// P10.1: beside a CNAME nothing but NSEC, and just one Data.
func TestRightCname(t *testing.T) {
	with(t, true, "a.x. 60 CNAME b.", "a.x. 60 CNAME b.\nA.x. 60 CNAME B.", "a.x. 60 CNAME b.\na.x. 60 NSEC x. CNAME NSEC", "a.x. 60 NSEC x. CNAME\na.x. 60 NSEC y. CNAME\na.x. 60 CNAME b."+sign("a.x.", "CNAME", "aa")+sign("a.x.", "NSEC", "aa"),
		"a.x. 60 CNAME b.\nb.a.x. 60 A 1.2.3.4\nc.x. 60 A 1.2.3.4", "*.x. 60 CNAME b.")
	with(t, false, "a.x. 60 CNAME b.\na.x. 60 CNAME c.", "a.x. 60 CNAME b.\nA.x. 60 A 1.2.3.4", "A.x. 60 TXT \"a\"\na.x. 60 CNAME b.", "x. 60 CNAME b.",
		"a.x. 60 CNAME b.\na.x. 60 NSEC3 1 0 0 - 00 A", "a.x. 60 CNAME b.\na.x. 60 DS 1 1 1 aa", "a.x. 60 CNAME b.\na.x. 60 DNAME b.", "a.x. 60 CNAME b.\na.x. 60 NS b.", "a.x. 60 CNAME b.\na.x. 60 NSEC x. A\na.x. 60 TYPE7 \\# 0")
}

// P10.1: neither NS nor DNAME at a name that begins with the label `*`, wherever else that stands.
func TestRightStars(t *testing.T) {
	with(t, true, "**.x. 60 NS b.", "a*.x. 60 DNAME b.", "a.*.x. 60 NS b.", "a.*.x. 60 DNAME b.", "*.x. 60 A 1.2.3.4", "*.*.x. 60 MX 1 a.", "\\000.x. 60 NS b.")
	with(t, false, "*.x. 60 NS b.", "*.x. 60 DNAME b.", "*.a.x. 60 NS b.", "*.*.x. 60 DNAME b.", "*.x. 60 NS b.\n*.x. 60 A 1.2.3.4")
	judged(t, "an apex", zoneOf("*.x.", "*.x. 60 SOA a. b. 1 2 3 4 5\n*.x. 60 NS a."), false)
	judged(t, "an apex below", zoneOf("a.*.x.", "a.*.x. 60 SOA a. b. 1 2 3 4 5\na.*.x. 60 NS a."), true)
}

// P10.1: a DNAME has one Data, and below it nothing is there.
func TestRightDname(t *testing.T) {
	with(t, true, "a.x. 60 DNAME b.", "a.x. 60 DNAME b.\nA.x. 60 DNAME B.", "a.x. 60 DNAME b.\na.x. 60 A 1.2.3.4\na.x. 60 TXT \"a\"", "a.x. 60 DNAME b.\nb.x. 60 A 1.2.3.4\nba.x. 60 A 1.2.3.4", "x. 60 DNAME b.", "b.a.x. 60 DNAME b.\na.x. 60 A 1.2.3.4")
	with(t, false, "a.x. 60 DNAME b.\na.x. 60 DNAME c.", "a.x. 60 DNAME b.\nb.A.x. 60 A 1.2.3.4", "c.b.a.x. 60 TXT \"a\"\na.x. 60 DNAME b.", "a.x. 60 DNAME b.\nb.a.x. 60 DNAME b.", "a.x. 60 DNAME b.\nb.a.x. 60 NS b.", "x. 60 DNAME b.\na.x. 60 A 1.2.3.4",
		"a.x. 60 DNAME b.\n*.a.x. 60 A 1.2.3.4", "a.x. 60 DNAME b.\nb.a.x. 60 NSEC x. A", "a.x. 60 DNAME b.\na.x. 60 NS b.")
}

// P10.1: below a cut only A and AAAA, at it NS, DS and NSEC too; so no cut is below another. The Apex is none.
func TestRightCut(t *testing.T) {
	text := map[int]string{api.TypeA: "1.2.3.4", api.TypeAAAA: "1:2:3:4:5:6:7:8", api.TypeNS: "b.", api.TypeDS: "1 1 1 aa", api.TypeNSEC: "x. A", api.TypeMX: "1 b.", api.TypeTXT: "\"a\"",
		api.TypeCNAME: "b.", api.TypeDNAME: "b.", api.TypeDNSKEY: "256 3 8 aa", api.TypeNSEC3: "1 0 0 - 00 A", 0: "\\# 0", other: "\\# 1 01", api.TypeANY: "\\# 0"}
	address := []int{api.TypeA, api.TypeAAAA}
	atCut := append(slices.Clone(address), api.TypeNS, api.TypeDS, api.TypeNSEC)
	for kind, d := range text {
		word := strings.Fields(told(api.Set{Name: "\x00", Type: kind, Class: 1}))[2]
		line := func(n string) string { return n + " 60 " + word + " " + d }
		for _, cut := range []string{"s.x. 60 NS a.\n", "S.x. 60 NS a.\nt.x. 60 NS a.\n", "s.x. 60 DS 1 1 1 bb\ns.x. 60 NS a.s.x.\na.s.x. 60 A 1.1.1.1\n"} {
			with(t, slices.Contains(address, kind), cut+line("b.s.x."), line("c.B.S.X.")+"\n"+cut, cut+line("a.b.c.s.x."))
			with(t, slices.Contains(atCut, kind), cut+line("S.x."), line("s.x.")+"\n"+cut)
			with(t, true, cut+line("as.x."), line("s.y.x.")+"\n"+cut)
		}
	}
	with(t, true, "x. 60 DS 1 1 1 aa\nx. 60 TXT \"a\"\na.x. 60 TXT \"a\"", "s.x. 60 NS a."+sign("s.x.", "NS", "aa"), "*.s.x. 60 A 1.2.3.4\ns.x. 60 NS a.")
	with(t, false, "s.x. 60 NS a.\nb.s.x. 60 NS a.", "b.s.x. 60 NS a.\ns.x. 60 NS a.\nb.s.x. 60 A 1.2.3.4", "s.x. 60 NS a.\nb.s.x. 60 DS 1 1 1 aa", "s.x. 60 NS a.\nb.s.x. 60 NSEC x. A")
}
