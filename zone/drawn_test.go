package zone_test

import (
	"math/rand"
	"reflect"
	"slices"
	"strconv"
	"strings"
	"testing"

	"guidepost/api"
	"guidepost/rrset"
	"guidepost/wire"
	"guidepost/zone"
)

func pick[T any](r *rand.Rand, list ...T) T { return list[r.Intn(len(list))] }

// drawnCase is a text some of whose letters are great.
func drawnCase(r *rand.Rand, s string) string {
	b := []byte(s)
	for i, c := range b {
		if 'a' <= c && c <= 'z' && r.Intn(5) == 0 {
			b[i] = c - 32
		}
	}
	return string(b)
}

// drawnName is one of few names, most of them under x.
func drawnName(r *rand.Rand) string {
	n := pick(r, "x.", "x.", "x.", "x.", "x.", "x.", "x.", "x.", "x.", "x.", "y.", ".")
	for range r.Intn(4) {
		n = pick(r, "a", "b", "c", "*") + "." + strings.TrimPrefix(n, ".")
	}
	return drawnCase(r, n)
}

// drawnRecord is one of few, now and then one that may not be.
func drawnRecord(r *rand.Rand) api.Record {
	kind := pick(r, "A", "A", "A", "AAAA", "TXT", "MX", "NS", "NS", "CNAME", "CNAME", "DNAME", "DS", "DS", "NSEC", "NSEC3", "SOA", "TYPE65280", "RRSIG", "RRSIG", "RRSIG")
	n := drawnName(r)
	covered := pick(r, "A", "NS", "SOA", "DS", "CNAME", "DNAME", "NSEC", "NSEC3", "TXT")
	text := map[string]string{
		"A": "10.0.0." + strconv.Itoa(r.Intn(3)), "AAAA": "0:0:0:0:0:0:0:" + strconv.Itoa(r.Intn(3)), "TXT": pick(r, `"a"`, `"A"`, `""`), "MX": "1 " + drawnName(r), "NS": drawnName(r), "CNAME": drawnName(r), "DNAME": drawnName(r),
		"DS": pick(r, "1 1 1 aa", "1 1 1 ab"), "NSEC": drawnName(r) + " A", "NSEC3": "1 0 0 - 0" + pick(r, "0", "4") + " A", "SOA": "a. b. 1 2 3 4 " + pick(r, "5", "60"), "TYPE65280": `\# 0`, "RRSIG": covered + " 8 1 60 9 8 7 x. " + pick(r, "aa", "ab"),
	}
	x := record(n + " " + pick(r, "0", "5", "60", "60", "60", "2147483647", "2147483648") + " " + kind + " " + text[kind])
	switch r.Intn(200) {
	case 0:
		x.Class = pick(r, 0, 3, 255, -1)
	case 1:
		x.TTL = pick(r, -1, whole, half, whole-1)
	case 2:
		x.Data = pick(r, "", "?")
	case 3:
		x.Type = pick(r, api.TypeOPT, 65536, -1, api.TypeANY)
	case 4:
		x.Name = pick(r, wrongNames()...)
	}
	return x
}

// drawnZone is a zone, mostly right: what would spoil it is left out, but now and then the last ones.
func drawnZone(r *rand.Rand) api.Zone {
	z := api.Zone{Apex: drawnCase(r, "\x01x\x00"), Records: []api.Record{
		record(drawnCase(r, "x.") + " 60 NS " + drawnName(r)),
		record(drawnCase(r, "x.") + " " + pick(r, "5", "60", "2147483647") + " SOA ns.x. m.x. 1 2 3 4 " + pick(r, "0", "5", "60", "2147483648", "4294967295")),
	}}
	for range r.Intn(40) {
		more := z
		more.Records = append(slices.Clone(z.Records), drawnRecord(r))
		if slowRight(more) {
			z = more
		}
	}
	if r.Intn(3) == 0 {
		z.Records = append(z.Records, drawnRecord(r), drawnRecord(r))
	}
	if r.Intn(100) == 0 {
		z.Apex = pick(r, named("a.x."), named("."), named("*.x."), named("y."), "?")
	}
	r.Shuffle(len(z.Records), func(i, j int) { z.Records[i], z.Records[j] = z.Records[j], z.Records[i] })
	return z
}

// drawnAsk is a question, often of a name that the zone has, or of one near it.
func drawnAsk(r *rand.Rand, z api.Zone) question {
	n := named(drawnName(r))
	if r.Intn(2) == 0 {
		n = z.Records[r.Intn(len(z.Records))].Name
		if near := pick(r, "", "\x01a", "\x01*", "\x01q\x01q") + n; len(n) < 200 {
			n = drawnCase(r, near)
		}
	}
	return question{n, pick(r, kindOf("A"), kindOf("AAAA"), kindOf("TXT"), kindOf("NS"), kindOf("CNAME"), kindOf("DNAME"), kindOf("DS"), kindOf("DS"), kindOf("SOA"), kindOf("NSEC"), kindOf("NSEC3"), kindOf("ANY"), kindOf("ANY"), kindOf("RRSIG"), other), r.Intn(2) == 0}
}

// alike is whether two answers tell the same.
func alike(a, b zone.Answer) bool {
	same := func(a, b []api.Set) bool {
		return slices.EqualFunc(a, b, func(s, o api.Set) bool {
			return s.Name == o.Name && s.Type == o.Type && s.Class == o.Class && s.TTL == o.TTL && slices.Equal(s.Data, o.Data) && slices.Equal(s.Sigs, o.Sigs)
		})
	}
	return a.Kind == b.Kind && a.To == b.To && a.Wild == b.Wild && same(a.Answer, b.Answer) && same(a.Authority, b.Authority) && same(a.Extra, b.Extra)
}

// P10.1, P10.2: drawn zones are right, and answer, as the slow reading of the document says.
func TestDrawn(t *testing.T) {
	r := rand.New(rand.NewSource(101))
	times := map[string]int{}
	for range 900 {
		z := drawnZone(r)
		right := slowRight(z)
		if zone.Right(z) != right {
			t.Fatalf("%+v: Right is not %v", z, right)
		}
		times["right "+strconv.FormatBool(right)]++
		m := model{apex: z.Apex}
		if right {
			m.sets = rrset.Sets(z.Records)
		}
		if got := zone.Sets(z); len(got) != len(m.sets) || len(got) > 0 && !reflect.DeepEqual(got, m.sets) {
			t.Fatalf("%+v: Sets is %+v", z, got)
		}
		for range 40 {
			q := drawnAsk(r, z)
			n, want := q.n, api.OK
			if !right {
				want = api.ErrZone
			} else if slices.Contains(wrongNames(), n) {
				want = api.ErrName
			}
			got, e := zone.Lookup(z, n, q.kind, q.do)
			if e != want {
				t.Fatalf("%+v, %q: %v", z, n, e)
			}
			if e != api.OK {
				continue
			}
			m.do = q.do
			if want := m.lookup(n, q.kind); !alike(got, want) {
				t.Fatalf("%+v, %q %d %v:\n%s, want:\n%s", z, n, q.kind, q.do, answered(got), answered(want))
			}
			count(times, got, q.do)
		}
	}
	for _, what := range []string{"right true", "right false", "Answer", "Referral", "NoData", "NXDomain", "Outside", "Cname", "Answer wild", "NoData wild", "Cname wild", "Cname moved", "Referral with extras", "Referral with DS", "Referral with proofs", "Answer wild with proofs"} {
		if times[what] < 25 {
			t.Errorf("%s: hardly tried: %v", what, times)
		}
	}
}

// count counts what an answer is.
func count(times map[string]int, a zone.Answer, do bool) {
	word := kinds()[a.Kind]
	times[word]++
	if a.Wild != "" {
		times[word+" wild"]++
		if a.Kind == api.KAnswer && len(a.Authority) > 0 {
			times[word+" wild with proofs"]++
		}
	}
	if len(a.Answer) == 2 && a.Kind == api.KCname {
		times[word+" moved"]++
	}
	if len(a.Extra) > 0 {
		times[word+" with extras"]++
	}
	if a.Kind == api.KReferral && do && len(a.Authority) > 1 {
		times[word+" with "+map[bool]string{true: "DS", false: "proofs"}[a.Authority[1].Type == api.TypeDS]]++
	}
}

// P10.3: drawn replies are those of the slow reading, as Write tells them.
func TestReplyDrawn(t *testing.T) {
	r := rand.New(rand.NewSource(103))
	for range 300 {
		z := drawnZone(r)
		if !slowRight(z) {
			continue
		}
		for range 20 {
			q := drawnAsk(r, z)
			m := api.Message{ID: r.Intn(65536), RD: r.Intn(2) == 0, CD: r.Intn(2) == 0, Ask: []api.Question{{Name: q.n, Type: q.kind, Class: 1}}}
			if q.do || r.Intn(2) == 0 {
				m.Edns = api.Edns{Has: true, Size: r.Intn(65536), Do: q.do}
			}
			size := pick(r, 512, 513, 600, 4096)
			want, _, e := wire.Write(model{z.Apex, rrset.Sets(z.Records), q.do}.message(m), size)
			if got, f := zone.Reply(z, m, size); got != want || e != f {
				t.Fatalf("%+v, %+v: %q %v, want %q %v", z, m, got, f, want, e)
			}
		}
	}
}
