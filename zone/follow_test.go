package zone_test

import (
	"math/rand"
	"reflect"
	"slices"
	"strings"
	"testing"

	"guidepost/api"
	"guidepost/name"
	"guidepost/zone"
)

// rightZones are drawn zones that are right.
func rightZones(seed int64, count int) []api.Zone {
	r := rand.New(rand.NewSource(seed))
	var list []api.Zone
	for len(list) < count {
		if z := drawnZone(r); zone.Right(z) {
			list = append(list, z)
		}
	}
	return list
}

// looked is what a right zone answers.
func looked(t *testing.T, z api.Zone, q question) zone.Answer {
	t.Helper()
	a, e := zone.Lookup(z, q.n, q.kind, q.do)
	if e != api.OK {
		t.Fatalf("%+v %+v: %v", z, q, e)
	}
	return a
}

// bare is a set without its Sigs.
func bare(s api.Set) api.Set {
	s.Sigs = nil
	return s
}

// isOf is whether a set that is told is the zone's, but for what may be another in it.
func isOf(sets []api.Set, s api.Set, do, soa, wild bool) bool {
	return slices.ContainsFunc(sets, func(o api.Set) bool {
		if wild && strings.HasPrefix(o.Name, "\x01*") {
			o.Name = s.Name
		}
		if soa && o.Type == api.TypeSOA && s.TTL <= o.TTL {
			o.TTL = s.TTL
		}
		if !do {
			o.Sigs = nil
		}
		return alike(zone.Answer{Answer: []api.Set{o}}, zone.Answer{Answer: []api.Set{s}})
	})
}

// P10.4: each set that is told is the zone's, but SOA's TTL, and what is made of a wildcard or a DNAME.
func TestToldSets(t *testing.T) {
	r := rand.New(rand.NewSource(1041))
	for _, z := range rightZones(1042, 200) {
		sets := zone.Sets(z)
		for range 30 {
			q := drawnAsk(r, z)
			a := looked(t, z, q)
			own := a.Answer
			if len(own) == 2 && own[0].Type == api.TypeDNAME && own[1].Type == api.TypeCNAME {
				to, _ := name.Moved(q.n, own[0].Name, own[0].Data[0])
				if made := own[1]; made.Name != q.n || made.TTL != own[0].TTL || made.Class != api.IN || !slices.Equal(made.Data, []string{to}) || len(made.Sigs) != 0 || a.To != to {
					t.Fatalf("%+v %+v: %+v", z, q, a)
				}
				own = own[:1]
			}
			for _, s := range own {
				if !isOf(sets, s, q.do, false, a.Wild != "") {
					t.Fatalf("%+v %+v: %+v", z, q, s)
				}
			}
			for _, s := range append(slices.Clone(a.Authority), a.Extra...) {
				if !isOf(sets, s, q.do, true, false) {
					t.Fatalf("%+v %+v: %+v", z, q, s)
				}
			}
		}
	}
}

// P10.4: a name is NXDomain just if it is not there, no wildcard covers it, and neither a cut nor a DNAME is above it.
func TestNobodyJust(t *testing.T) {
	r := rand.New(rand.NewSource(1043))
	times := map[bool]int{}
	for _, z := range rightZones(1044, 200) {
		sets := zone.Sets(z)
		for range 30 {
			q := drawnAsk(r, z)
			if !name.Under(q.n, z.Apex) {
				continue
			}
			want := nobody(sets, z.Apex, q.n)
			if got := looked(t, z, q).Kind == api.KNXDomain; got != want {
				t.Fatalf("%+v %+v: %v", z, q, got)
			}
			times[want]++
		}
	}
	if times[true] < 500 || times[false] < 500 {
		t.Error("hardly tried:", times)
	}
}

// nobody is whether a name under the apex is not, and is not made.
func nobody(sets []api.Set, apex, n string) bool {
	near := ""
	for _, s := range sets {
		cut := s.Type == api.TypeNS && !name.Equal(s.Name, apex)
		if name.Under(s.Name, n) || name.Under(n, s.Name) && (cut || s.Type == api.TypeDNAME) {
			return false
		}
		if common := must(name.Common(n, s.Name)); len(common) > len(near) {
			near = common
		}
	}
	return !slices.ContainsFunc(sets, func(s api.Set) bool { return name.Equal(s.Name, "\x01*"+near) })
}

// P10.4: with do all is told that is told without it, in its order.
func TestDoTellsMore(t *testing.T) {
	r := rand.New(rand.NewSource(1045))
	for _, z := range rightZones(1046, 200) {
		for range 30 {
			q := drawnAsk(r, z)
			q.do = false
			less := looked(t, z, q)
			q.do = true
			more := looked(t, z, q)
			if less.Kind != more.Kind || less.To != more.To || less.Wild != more.Wild || len(less.Answer) != len(more.Answer) || len(less.Extra) != len(more.Extra) || len(less.Authority) > len(more.Authority) {
				t.Fatalf("%+v %+v: %+v, with do %+v", z, q, less, more)
			}
			all := slices.Concat(more.Answer, more.Extra, more.Authority[:len(less.Authority)])
			for i, s := range slices.Concat(less.Answer, less.Extra, less.Authority) {
				if len(s.Sigs) != 0 || !reflect.DeepEqual(bare(s), bare(all[i])) {
					t.Fatalf("%+v %+v: %+v, with do %+v", z, q, s, all[i])
				}
			}
		}
	}
}

// roomy is a copy of a zone with spare room in its list, and something in that.
func roomy(z api.Zone) api.Zone {
	list := append(slices.Clone(z.Records), record("behind. 1 A 1.2.3.4"), record("all. 1 A 1.2.3.4"))
	z.Records = list[:len(z.Records)]
	return z
}

// spoil writes into all lists of an answer, and into their spare room.
func spoil(sets []api.Set) {
	for i := range sets {
		for _, list := range [][]string{sets[i].Data, sets[i].Sigs} {
			list = list[:cap(list)]
			for j := range list {
				list[j] = "spoilt"
			}
		}
	}
	sets = sets[:cap(sets)]
	for i := range sets {
		sets[i] = api.Set{Name: "spoilt"}
	}
}

// P3, P4: nothing that is handed in is written into, whatever is done with an answer; no two lists of an answer share anything; the same is answered again.
func TestNothingIsShared(t *testing.T) {
	r := rand.New(rand.NewSource(1047))
	for _, z := range append(rightZones(1048, 100), zoneOf("x.", signed)) {
		z = roomy(z)
		kept := slices.Clone(z.Records[:len(z.Records)+2])
		for range 20 {
			q := drawnAsk(r, z)
			first, again := looked(t, z, q), looked(t, z, q)
			if !reflect.DeepEqual(first, again) {
				t.Fatalf("%+v %+v: %+v, then %+v", z, q, first, again)
			}
			for i, spoilt := range [][]api.Set{first.Answer, first.Authority, first.Extra} {
				spoil(spoilt)
				left := [][]api.Set{first.Answer, first.Authority, first.Extra}[i+1:]
				if want := [][]api.Set{again.Answer, again.Authority, again.Extra}[i+1:]; !reflect.DeepEqual(left, want) {
					t.Fatalf("%+v %+v: %+v, want %+v", z, q, left, want)
				}
			}
			if third := looked(t, z, q); !reflect.DeepEqual(third, again) {
				t.Fatalf("%+v %+v: %+v, then %+v", z, q, again, third)
			}
			m := api.Message{Ask: []api.Question{{Name: q.n, Type: q.kind, Class: 1}, {Name: "behind"}}[:1]}
			zone.Reply(z, m, 4096)
			spoil(zone.Sets(z))
			if m.Ask[:2][1].Name != "behind" || m.Ask[0].Name != q.n || !slices.Equal(z.Records[:len(kept)], kept) {
				t.Fatalf("%+v %+v: written into", z, q)
			}
		}
	}
}

// P3: the lists of each two sets of an answer are apart, also where a wildcard's NSEC is told twice.
func TestSetsApart(t *testing.T) {
	z := zoneOf("x.", signed)
	for _, ask := range []string{"a.w.x. NSEC do", "a.w.x. ANY do", "no.x. A do", "b.x. A do", "plain.x. A do", "ns.x. ANY do"} {
		q := asked(ask)
		a, want := looked(t, z, q), looked(t, z, q)
		all, kept := slices.Concat(a.Answer, a.Authority, a.Extra), slices.Concat(want.Answer, want.Authority, want.Extra)
		for i := range all {
			spoil(all[i : i+1 : i+1])
			if !reflect.DeepEqual(all[i+1:], kept[i+1:]) {
				t.Errorf("%s: %+v, want %+v", ask, all[i+1:], kept[i+1:])
			}
		}
	}
}

// P1: whatever comes, each call ends, and none panics.
func TestWhateverComes(t *testing.T) {
	r := rand.New(rand.NewSource(1049))
	number := func() int {
		return pick(r, -1<<63, -1, 0, 1, 2, 5, 6, 39, 41, 43, 46, 255, 511, 512, 4096, 65535, 65536, half, whole, 1<<63-1)
	}
	text := func() string {
		return pick(r, append(wrongNames(), "\x00", named("x."), named("*.x."), longest, above, strings.Repeat("\xff", 3000), "abcd")...)
	}
	for range 3000 {
		z := api.Zone{Apex: text(), Records: records(base)}
		for range r.Intn(5) {
			z.Records = append(z.Records, pick(r, drawnRecord(r), api.Record{Name: text(), Type: number(), Class: number(), TTL: number(), Data: text()}))
		}
		n, kind := text(), number()
		zone.Right(z)
		zone.Sets(z)
		zone.Lookup(z, n, kind, r.Intn(2) == 0)
		m := api.Message{ID: number(), Op: pick(r, 0, number()), Rcode: number(), Edns: api.Edns{Has: r.Intn(2) == 0, Size: number(), Options: text()}, Answer: z.Records, Extra: []api.Record{{Name: n, Type: kind}}}
		for range r.Intn(3) {
			m.Ask = append(m.Ask, api.Question{Name: n, Type: kind, Class: pick(r, 1, number())})
		}
		zone.Reply(z, m, number())
		zone.Reply(zoneOf("x.", base), m, 512)
	}
	zone.Reply(api.Zone{}, api.Message{}, 0)
}
