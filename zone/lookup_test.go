package zone_test

import (
	"reflect"
	"strings"
	"testing"

	"guidepost/api"
	"guidepost/name"
	"guidepost/zone"
)

// signed is a zone with signatures and proofs, in several letters.
var signed = `
X. 60 SOA ns.x. m.x. 1 2 3 4 5` + sign("x.", "SOA", "0a") + `
x. 60 NS ns.x.
x. 60 NS ns.b.x.` + sign("x.", "NS", "0b") + `
x. 60 NSEC Al.x. NS SOA NSEC
al.X. 50 CNAME Www.x.` + sign("al.x.", "CNAME", "0c") + `
al.x. 40 NSEC b.x. CNAME NSEC` + sign("al.x.", "NSEC", "0d") + `
b.x. 60 NS c.B.x.
b.x. 60 NS ns.x.
b.x. 60 NS out.y.
b.x. 60 DS 1 8 2 aa` + sign("b.x.", "DS", "0e") + `
c.b.x. 60 AAAA 1:2:3:4:5:6:7:8
c.b.x. 60 A 10.0.0.3
Ns.x. 60 A 10.0.0.1` + sign("ns.x.", "A", "0f") + sign("ns.x.", "A", "10") + `
ns.x. 60 TXT "a"
ns.x. 60 MX 1 ns.x.
plain.x. 60 NS c.b.x.
*.w.x. 60 TXT "t"` + sign("*.w.x.", "TXT", "11") + `
*.w.x. 60 NSEC x. TXT NSEC` + sign("*.w.x.", "NSEC", "12") + `
*.w.x. 60 A 10.0.0.5
0.x. 60 NSEC3 1 0 0 - 00 A` + sign("0.x.", "NSEC3", "13")

// The sets of signed that deny, as an answer with do tells them.
const proofs = `
	au x. 60 NSEC Al.x. NS SOA NSEC
	au al.x. 40 NSEC b.x. CNAME NSEC 0D
	au *.w.x. 60 NSEC x. TXT NSEC 12
	au 0.x. 60 NSEC3 1 0 0 - 00 A 13`

// P10.2: the chapter's examples.
func TestLookupExamples(t *testing.T) {
	soa := "\nau x. 5 SOA ns.x. m.x. 1 2 3 4 5"
	answers(t, zoneOf("x.", example),
		want{"www.x. A", "Answer\nan www.x. 60 A 10.0.0.1"},
		want{"www.x. TXT", "NoData" + soa},
		want{"no.x. A", "NXDomain" + soa},
		want{"w.x. A", "NoData" + soa},
		want{"a.sub.x. A", "Referral\nau sub.x. 60 NS ns.sub.x.\nex ns.sub.x. 60 A 10.0.0.2"},
		want{"sub.x. DS", "NoData" + soa},
		want{"a.b.w.x. TXT", "Answer\nwild w.x.\nan a.b.w.x. 60 TXT \"t\""},
		want{"al.x. A", "Cname\nto www.x.\nan al.x. 60 CNAME www.x."},
		want{"al.x. CNAME", "Answer\nan al.x. 60 CNAME www.x."},
		want{"y. A", "Outside"},
	)
}

// P10.2: the errors, in their order; with them nothing is told.
func TestLookupErrors(t *testing.T) {
	good, x := zoneOf("x.", example), named("x.")
	refused := func(z api.Zone, n string, kind int, want api.Errno) {
		t.Helper()
		for _, do := range []bool{false, true} {
			if a, e := zone.Lookup(z, n, kind, do); e != want || !reflect.DeepEqual(a, zone.Answer{}) {
				t.Errorf("%q %d: %+v %v, want %v", n, kind, a, e, want)
			}
		}
	}
	for _, n := range wrongNames() {
		refused(good, n, 1, api.ErrName)
		refused(good, n, -1, api.ErrName)
		refused(api.Zone{}, n, -1, api.ErrZone)
	}
	for _, kind := range wrongNumbers() {
		refused(good, x, kind, api.ErrArg)
		refused(good, named("y."), kind, api.ErrArg)
		refused(api.Zone{Apex: x}, x, kind, api.ErrZone)
	}
	for _, kind := range []int{0, 1, 65535} {
		if _, e := zone.Lookup(good, x, kind, false); e != api.OK {
			t.Errorf("type %d: %v", kind, e)
		}
	}
}

// P10.2, 1: names that are not under the Apex, whatever is asked.
func TestLookupOutside(t *testing.T) {
	answers(t, zoneOf("x.", signed), want{"y. A", "Outside"}, want{"y. A do", "Outside"}, want{". SOA do", "Outside"}, want{"x.y. ANY", "Outside"}, want{"ax. A", "Outside"}, want{"a\\001x. A", "Outside"})
	answers(t, zoneOf("b.x.", "b.x. 60 SOA a. b. 1 2 3 4 5\nb.x. 60 NS a."), want{"x. DS do", "Outside"}, want{"a.x. DS", "Outside"}, want{"B.X. NS", "Answer\nan b.x. 60 NS a."})
	answers(t, zoneOf(".", ". 60 SOA a. b. 1 2 3 4 5\n. 60 NS a."), want{"x.y. A", "NXDomain\nau . 5 SOA a. b. 1 2 3 4 5"}, want{". NS", "Answer\nan . 60 NS a."})
}

// P10.2, 2: referrals: DS with do, or else proofs; addresses of the servers, as far as they are the zone's.
func TestLookupReferral(t *testing.T) {
	ns := "\nau b.x. 60 NS c.B.x. ns.x. out.y."
	glue := "\nex c.b.x. 60 A 10.0.0.3\nex c.b.x. 60 AAAA 1:2:3:4:5:6:7:8\nex Ns.x. 60 A 10.0.0.1"
	answers(t, zoneOf("x.", signed),
		want{"b.x. A", "Referral" + ns + glue},
		want{"B.X. NS", "Referral" + ns + glue},
		want{"c.b.x. A", "Referral" + ns + glue},
		want{"a.c.b.x. DS", "Referral" + ns + glue},
		want{"a.b.x. ANY", "Referral" + ns + glue},
		want{"b.x. A do", "Referral" + ns + "\nau b.x. 60 DS 1 8 2 aa 0E" + glue + " 0F 10"},
		want{"c.b.x. DS do", "Referral" + ns + "\nau b.x. 60 DS 1 8 2 aa 0E" + glue + " 0F 10"},
		want{"a.plain.x. A", "Referral\nau plain.x. 60 NS c.b.x." + glue[:strings.Index(glue, "\nex Ns")]},
		want{"plain.x. ANY do", "Referral\nau plain.x. 60 NS c.b.x." + proofs + glue[:strings.Index(glue, "\nex Ns")]},
		want{"ab.x. A", "NXDomain\nau X. 5 SOA ns.x. m.x. 1 2 3 4 5"},
	)
	answers(t, zoneOf("x.", base+"s.x. 60 NS A.x.\ns.x. 60 NS a.X.\ns.x. 60 NS *.x.\na.x. 9 A 1.2.3.4\nA.X. 8 A 1.2.3.5\n*.x. 60 AAAA 0:0:0:0:0:0:0:1\ns.x. 60 NS wild.x.\ns.x. 60 NS al.x.\nal.x. 60 CNAME a.x.\ns.x. 60 NS s.x.\ns.x. 60 A 1.1.1.1"),
		want{"s.x. A", "Referral\nau s.x. 60 NS A.x. *.x. wild.x. al.x. s.x.\nex a.x. 8 A 1.2.3.4 1.2.3.5\nex *.x. 60 AAAA 0:0:0:0:0:0:0:1\nex s.x. 60 A 1.1.1.1"},
		want{"s.x. A do", "Referral\nau s.x. 60 NS A.x. *.x. wild.x. al.x. s.x.\nex a.x. 8 A 1.2.3.4 1.2.3.5\nex *.x. 60 AAAA 0:0:0:0:0:0:0:1\nex s.x. 60 A 1.1.1.1"})
}

// P10.2, 2: DS of a cut, and of the Apex, is the zone's own; the Apex's NS is no cut.
func TestLookupDs(t *testing.T) {
	soa := "\nau X. 5 SOA ns.x. m.x. 1 2 3 4 5"
	answers(t, zoneOf("x.", signed),
		want{"B.x. DS", "Answer\nan b.x. 60 DS 1 8 2 aa"},
		want{"b.x. DS do", "Answer\nan b.x. 60 DS 1 8 2 aa 0E"},
		want{"plain.x. DS", "NoData" + soa},
		want{"plain.x. DS do", "NoData" + soa + " 0A" + proofs},
		want{"x. DS", "NoData" + soa},
		want{"x. NS", "Answer\nan x. 60 NS ns.x. ns.b.x."},
	)
	answers(t, zoneOf("x.", base+"x. 60 DS 1 1 1 aa"), want{"x. DS", "Answer\nan x. 60 DS 1 1 1 aa"}, want{"x. DS do", "Answer\nan x. 60 DS 1 1 1 aa"})
	answers(t, zoneOf("x.", base+"b.a.x. 60 NS b."), want{"a.x. A", "NoData\nau x. 5 SOA ns.x. m.x. 1 2 3 4 5"}, want{"c.b.a.x. A", "Referral\nau b.a.x. 60 NS b."})
}

// P10.2, 3: below a DNAME names are moved; at it they are not.
func TestLookupDname(t *testing.T) {
	z := zoneOf("x.", base+"D.x. 30 DNAME To.y."+sign("d.x.", "DNAME", "aa")+"d.x. 60 TXT \"a\"\nx. 60 NSEC d.x. A\n*.x. 60 A 1.2.3.4")
	answers(t, z,
		want{"K.d.X. A", "Cname\nto K.To.y.\nan D.x. 30 DNAME To.y.\nan K.d.X. 30 CNAME K.To.y."},
		want{"a.B.d.x. CNAME do", "Cname\nto a.B.To.y.\nan D.x. 30 DNAME To.y. AA\nan a.B.d.x. 30 CNAME a.B.To.y."},
		want{"*.d.x. DNAME", "Cname\nto *.To.y.\nan D.x. 30 DNAME To.y.\nan *.d.x. 30 CNAME *.To.y."},
		want{"k.d.x. ANY", "Cname\nto k.To.y.\nan D.x. 30 DNAME To.y.\nan k.d.x. 30 CNAME k.To.y."},
		want{"d.x. DNAME", "Answer\nan D.x. 30 DNAME To.y."},
		want{"d.x. TXT", "Answer\nan d.x. 60 TXT \"a\""},
		want{"d.x. A", "NoData\nau x. 5 SOA ns.x. m.x. 1 2 3 4 5"},
		want{"ad.x. A", "Answer\nwild x.\nan ad.x. 60 A 1.2.3.4"},
	)
	answers(t, zoneOf("x.", base+"x. 60 DNAME ."), want{"a.b.x. A", "Cname\nto a.b.\nan x. 60 DNAME .\nan a.b.x. 60 CNAME a.b."}, want{"x. A", "NoData\nau x. 5 SOA ns.x. m.x. 1 2 3 4 5"})
}

// P10.2, 3: where the name would be too long DNAME alone is told.
func TestLookupDnameLong(t *testing.T) {
	z := zoneOf("x.", base+"d.x. 30 DNAME d.yy."+sign("d.x.", "DNAME", "aa"))
	fits, long := strings.Repeat("\x01a", 123)+"\x02Ab", strings.Repeat("\x01a", 125)
	for _, do := range []bool{false, true} {
		a, e := zone.Lookup(z, fits+named("d.x."), 1, do)
		if e != api.OK || a.Kind != api.KCname || a.To != fits+named("d.yy.") || len(a.To) != 255 || len(a.Answer) != 2 {
			t.Errorf("%+v %v", a, e)
		}
	}
	n := must(name.Text(long + named("d.x.")))
	answers(t, z, want{n + " A", "Answer\nan d.x. 30 DNAME d.yy."}, want{n + " CNAME do", "Answer\nan d.x. 30 DNAME d.yy. AA"})
}

// P10.2, 4: the sets of a name that is there, in the zone's letters; of a name between there are none.
func TestLookupOwn(t *testing.T) {
	soa := "\nau X. 5 SOA ns.x. m.x. 1 2 3 4 5"
	answers(t, zoneOf("x.", signed),
		want{"nS.X. A", "Answer\nan Ns.x. 60 A 10.0.0.1"},
		want{"ns.x. A do", "Answer\nan Ns.x. 60 A 10.0.0.1 0F 10"},
		want{"x. SOA", "Answer\nan X. 60 SOA ns.x. m.x. 1 2 3 4 5"},
		want{"x. SOA do", "Answer\nan X. 60 SOA ns.x. m.x. 1 2 3 4 5 0A"},
		want{"ns.x. AAAA", "NoData" + soa},
		want{"ns.x. AAAA do", "NoData" + soa + " 0A" + proofs},
		want{"w.x. TXT", "NoData" + soa},
		want{"W.x. ANY do", "NoData" + soa + " 0A" + proofs},
		want{"ns.x. RRSIG", "NoData" + soa},
		want{"ns.x. TYPE0", "NoData" + soa},
		want{"ns.x. OPT", "NoData" + soa},
		want{"0.x. NSEC3", "Answer\nan 0.x. 60 NSEC3 1 0 0 - 00 A"},
		want{"x. NSEC do", "Answer\nan x. 60 NSEC Al.x. NS SOA NSEC"},
	)
	answers(t, zoneOf("x.", base+"a.b.c.x. 60 A 1.2.3.4\n*.x. 60 A 1.2.3.5\n*.c.x. 60 TXT \"a\""),
		want{"b.c.x. A", "NoData\nau x. 5 SOA ns.x. m.x. 1 2 3 4 5"},
		want{"c.x. A", "NoData\nau x. 5 SOA ns.x. m.x. 1 2 3 4 5"})
	answers(t, zoneOf("X.", base+"A.B.x. 60 A 1.2.3.4\n*.x. 60 A 1.2.3.5"),
		want{"b.x. A", "NoData\nau x. 5 SOA ns.x. m.x. 1 2 3 4 5"},
		want{"c.b.x. A", "NXDomain\nau x. 5 SOA ns.x. m.x. 1 2 3 4 5"},
		want{"a.b.x. A", "Answer\nan A.B.x. 60 A 1.2.3.4"})
}

// P10.2, 4: ANY is all sets of the name in the zone's order, but what denies.
func TestLookupAny(t *testing.T) {
	soa := "\nau X. 5 SOA ns.x. m.x. 1 2 3 4 5"
	answers(t, zoneOf("x.", signed),
		want{"ns.x. ANY", "Answer\nan Ns.x. 60 A 10.0.0.1\nan ns.x. 60 TXT \"a\"\nan ns.x. 60 MX 1 ns.x."},
		want{"x. ANY do", "Answer\nan X. 60 SOA ns.x. m.x. 1 2 3 4 5 0A\nan x. 60 NS ns.x. ns.b.x. 0B"},
		want{"0.x. ANY", "NoData" + soa},
		want{"0.x. ANY do", "NoData" + soa + " 0A" + proofs},
		want{"q.w.x. ANY do", "Answer\nwild w.x.\nan q.w.x. 60 TXT \"t\" 11\nan q.w.x. 60 A 10.0.0.5" + proofs},
	)
	answers(t, zoneOf("x.", base+"a.x. 60 TYPE65280 \\# 1 01\nb.x. 60 TXT \"a\"\na.x. 60 TYPE0 \\# 0\na.x. 60 NSEC x. A\na.x. 60 ANY \\# 0\na.x. 60 NSEC3 1 0 0 - 00 A\nn.x. 60 NSEC x. A"),
		want{"a.x. ANY", "Answer\nan a.x. 60 TYPE65280 \\# 1 01\nan a.x. 60 TYPE0 \\# 0\nan a.x. 60 ANY \\# 0"},
		want{"a.x. TYPE0", "Answer\nan a.x. 60 TYPE0 \\# 0"},
		want{"n.x. ANY", "NoData\nau x. 5 SOA ns.x. m.x. 1 2 3 4 5"})
}

// P10.2, 4: a CNAME sends on, unless it, its NSEC or ANY is asked for.
func TestLookupCname(t *testing.T) {
	cname := "\nan al.X. 50 CNAME Www.x."
	answers(t, zoneOf("x.", signed),
		want{"AL.x. A", "Cname\nto Www.x." + cname},
		want{"al.x. A do", "Cname\nto Www.x." + cname + " 0C"},
		want{"al.x. NSEC3", "Cname\nto Www.x." + cname},
		want{"al.x. DS", "Cname\nto Www.x." + cname},
		want{"al.x. DNAME", "Cname\nto Www.x." + cname},
		want{"al.x. CNAME", "Answer" + cname},
		want{"al.x. CNAME do", "Answer" + cname + " 0C"},
		want{"al.x. ANY", "Answer" + cname},
		want{"al.x. NSEC", "Answer\nan al.x. 40 NSEC b.x. CNAME NSEC"},
		want{"al.x. NSEC do", "Answer\nan al.x. 40 NSEC b.x. CNAME NSEC 0D"},
	)
	answers(t, zoneOf("x.", example), want{"al.x. NSEC", "NoData\nau x. 5 SOA ns.x. m.x. 1 2 3 4 5"})
	answers(t, zoneOf("x.", base+"*.x. 60 CNAME B.x.\n*.x. 60 NSEC x. CNAME"+sign("*.x.", "CNAME", "aa")),
		want{"Q.x. A", "Cname\nwild x.\nto B.x.\nan Q.x. 60 CNAME B.x."},
		want{"q.X. A do", "Cname\nwild X.\nto B.x.\nan q.X. 60 CNAME B.x. AA\nau *.x. 60 NSEC x. CNAME"},
		want{"q.x. CNAME do", "Answer\nwild x.\nan q.x. 60 CNAME B.x. AA\nau *.x. 60 NSEC x. CNAME"},
		want{"q.x. ANY", "Answer\nwild x.\nan q.x. 60 CNAME B.x."},
		want{"*.x. A do", "Cname\nto B.x.\nan *.x. 60 CNAME B.x. AA"})
}

// P10.2, 4: wildcards: of the nearest name above that is there, with the letters of who asks.
func TestLookupWild(t *testing.T) {
	soa := "\nau X. 5 SOA ns.x. m.x. 1 2 3 4 5"
	answers(t, zoneOf("x.", signed),
		want{"A.b.W.x. TXT", "Answer\nwild W.x.\nan A.b.W.x. 60 TXT \"t\""},
		want{"a.w.X. TXT do", "Answer\nwild w.X.\nan a.w.X. 60 TXT \"t\" 11" + proofs},
		want{"a.w.x. NSEC do", "Answer\nwild w.x.\nan a.w.x. 60 NSEC x. TXT NSEC 12" + proofs},
		want{"a.W.x. MX", "NoData\nwild W.x." + soa},
		want{"a.w.x. MX do", "NoData\nwild w.x." + soa + " 0A" + proofs},
		want{"*.W.x. TXT do", "Answer\nan *.w.x. 60 TXT \"t\" 11"},
		want{"*.w.x. MX", "NoData" + soa},
		want{"a.*.w.x. TXT", "NXDomain" + soa},
		want{"aw.x. TXT", "NXDomain" + soa},
	)
	soa = "\nau x. 5 SOA ns.x. m.x. 1 2 3 4 5"
	answers(t, zoneOf("x.", base+"*.x. 60 A 1.2.3.4\na.x. 60 TXT \"a\"\nd.c.b.x. 60 TXT \"b\"\n*.b.x. 60 A 1.2.3.5\ne.*.e.x. 60 TXT \"c\"\n*.*.x. 60 A 1.2.3.6"),
		want{"q.x. A", "Answer\nwild x.\nan q.x. 60 A 1.2.3.4"},
		want{"q.q.x. A", "Answer\nwild x.\nan q.q.x. 60 A 1.2.3.4"},
		want{"a.x. A", "NoData" + soa},
		want{"q.a.x. A", "NXDomain" + soa},
		want{"q.b.x. A", "Answer\nwild b.x.\nan q.b.x. 60 A 1.2.3.5"},
		want{"q.c.b.x. A", "NXDomain" + soa},
		want{"c.b.x. A", "NoData" + soa},
		want{"q.e.x. TXT", "NXDomain" + soa},
		want{"*.e.x. TXT", "NoData" + soa},
		want{"q.*.x. A", "Answer\nwild *.x.\nan q.*.x. 60 A 1.2.3.6"},
		want{"*.a.x. A", "NXDomain" + soa},
	)
}

// P10.2, 4: the longest wildcard that can be one makes the longest names; below longer names there are none.
func TestLookupWildLong(t *testing.T) {
	z := zoneOf("x.", base)
	z.Records = append(z.Records, api.Record{Name: "\x01*" + above, Type: 1, Class: 1, TTL: 60, Data: "abcd"})
	if a, e := zone.Lookup(z, longest, 1, false); e != api.OK || a.Kind != api.KAnswer || a.Wild != above || len(a.Answer) != 1 || a.Answer[0].Name != longest {
		t.Errorf("%+v %v", a, e)
	}
	z.Records[2].Name = longest
	if a, e := zone.Lookup(z, "\x01m"+above, 1, false); e != api.OK || a.Kind != api.KNXDomain || a.Wild != "" {
		t.Errorf("%+v %v", a, e)
	}
	if a, e := zone.Lookup(z, above, 1, false); e != api.OK || a.Kind != api.KNoData {
		t.Errorf("%+v %v", a, e)
	}
}

// P10.2: SOA is kept no longer than its Minimum where something is denied, and as it is where it is asked for.
func TestLookupSoa(t *testing.T) {
	for _, c := range []struct{ ttl, minimum, want string }{
		{"60", "5", "5"}, {"60", "59", "59"}, {"60", "60", "60"}, {"60", "61", "60"}, {"60", "0", "0"}, {"0", "60", "0"}, {"2147483647", "2147483646", "2147483646"},
		{"2147483647", "2147483648", "2147483647"}, {"2147483647", "4294967295", "2147483647"}, {"2147483648", "60", "0"}, {"7", "4294967295", "7"},
	} {
		z := zoneOf("x.", "x. "+c.ttl+" SOA a. b. 1 2 3 4 "+c.minimum+sign("x.", "SOA", "aa")+"x. 60 NS a.\nx. 60 NSEC x. NS")
		line := "\nau x. " + c.want + " SOA a. b. 1 2 3 4 " + c.minimum
		kept := strings.Replace(c.ttl, "2147483648", "0", 1)
		answers(t, z, want{"a.x. A", "NXDomain" + line}, want{"x. A", "NoData" + line}, want{"a.x. A do", "NXDomain" + line + " AA\nau x. 60 NSEC x. NS"}, want{"x. SOA", "Answer\nan x. " + kept + " SOA a. b. 1 2 3 4 " + c.minimum})
	}
}

// P10.2, 5: names that are not there.
func TestLookupNobody(t *testing.T) {
	soa := "\nau X. 5 SOA ns.x. m.x. 1 2 3 4 5"
	answers(t, zoneOf("x.", signed), want{"No.x. A", "NXDomain" + soa}, want{"no.x. A do", "NXDomain" + soa + " 0A" + proofs}, want{"a.ns.x. ANY", "NXDomain" + soa}, want{"a.al.x. A", "NXDomain" + soa}, want{"no.x. DS do", "NXDomain" + soa + " 0A" + proofs})
}
