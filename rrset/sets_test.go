package rrset_test

import (
	"math"
	"reflect"
	"slices"
	"strings"
	"testing"

	"guidepost/api"
	"guidepost/rrset"
)

// alike is whether two lists of sets are the same, lists of nothing being so however they are told.
func alike(a, b []api.Set) bool {
	return slices.EqualFunc(a, b, func(s, o api.Set) bool {
		same := slices.Equal(s.Data, o.Data) && slices.Equal(s.Sigs, o.Sigs)
		s.Data, s.Sigs, o.Data, o.Sigs = nil, nil, nil, nil
		return same && reflect.DeepEqual(s, o)
	})
}

// makes is a test of Sets.
func makes(t *testing.T, why string, l []api.Record, want ...api.Set) {
	t.Helper()
	if got := rrset.Sets(l); !alike(got, want) {
		t.Errorf("%s: %+v, want %+v", why, got, want)
	}
}

// P8.1: the chapter's example.
func TestSetsExample(t *testing.T) {
	makes(t, "the example",
		[]api.Record{record(named("a"), 1, 5, address(1)), record(named("b"), 1, 9, address(2)), record(named("A"), 1, 4, address(3))},
		set(named("a"), 1, 4, address(1), address(3)), set(named("b"), 1, 9, address(2)))
	makes(t, "nothing", nil)
	makes(t, "an empty list", []api.Record{})
}

// P8.1: what belongs together, and in which order and letters it stands.
func TestSets(t *testing.T) {
	chaos := func(x api.Record) api.Record { x.Class = 3; return x }
	makes(t, "types and classes", []api.Record{
		record(www, 1, 9, address(1)), chaos(record(www, 1, 8, address(1))), record(www, other, 7, address(1)),
		record(www, 1, 6, address(0)), record(x, 1, 5, address(1)), chaos(record(named("WWW", "x"), 1, 4, address(2))),
	},
		set(www, 1, 6, address(1), address(0)),
		api.Set{Name: www, Type: 1, Class: 3, TTL: 4, Data: []string{address(1), address(2)}},
		set(www, other, 7, address(1)), set(x, 1, 5, address(1)))
	makes(t, "letters of the first", []api.Record{record(named("wWw", "X"), 1, 9, address(1)), record(www, 1, 9, address(2))},
		set(named("wWw", "X"), 1, 9, address(1), address(2)))
	makes(t, "the first one's order", []api.Record{record(x, 1, 9, address(1)), record(www, 1, 9, address(1)), record(x, 1, 9, address(2)), record(root, 1, 9, address(1))},
		set(x, 1, 9, address(1), address(2)), set(www, 1, 9, address(1)), set(root, 1, 9, address(1)))
	makes(t, "a byte that is no letter", []api.Record{record(named("@["), 1, 9, address(1)), record(named("`{"), 1, 9, address(2))},
		set(named("@["), 1, 9, address(1)), set(named("`{"), 1, 9, address(2)))
	makes(t, "types and classes at their ends", []api.Record{
		{Name: x, Type: 0, Class: 0, TTL: 0, Data: ""}, {Name: x, Type: 65535, Class: 65535, TTL: 1, Data: "a"}, record(x, api.TypeANY, 2, "b"),
	},
		api.Set{Name: x, Data: []string{""}}, api.Set{Name: x, Type: 65535, Class: 65535, TTL: 1, Data: []string{"a"}}, set(x, api.TypeANY, 2, "b"))
}

// P8.1: Data stand once, by Lower, and the first one counts.
func TestSetsTwice(t *testing.T) {
	makes(t, "by bytes", []api.Record{record(x, 1, 9, address(1)), record(x, 1, 9, address(2)), record(x, 1, 9, address(1))},
		set(x, 1, 9, address(1), address(2)))
	makes(t, "by letters", []api.Record{record(x, api.TypeMX, 9, "\x00\x01"+named("aB")), record(x, api.TypeMX, 9, "\x00\x01"+named("AB")), record(x, api.TypeMX, 9, "\x00\x02"+named("ab"))},
		set(x, api.TypeMX, 9, "\x00\x01"+named("aB"), "\x00\x02"+named("ab")))
	makes(t, "letters that count", []api.Record{record(x, api.TypeTXT, 9, "\x01a"), record(x, api.TypeTXT, 9, "\x01A")},
		set(x, api.TypeTXT, 9, "\x01a", "\x01A"))
	makes(t, "of another name", []api.Record{record(x, 1, 9, address(1)), record(www, 1, 9, address(1))},
		set(x, 1, 9, address(1)), set(www, 1, 9, address(1)))
	makes(t, "the TTL of the second", []api.Record{record(x, 1, 9, address(1)), record(x, 1, 4, address(1))}, set(x, 1, 4, address(1)))
}

// P8.1: the least TTL; one above 2^31 - 1 counts as 0; one that is out of bounds is no record's.
func TestSetsTTL(t *testing.T) {
	for _, c := range []struct{ told, want int }{
		{0, 0}, {1, 1}, {half - 2, half - 2}, {half - 1, half - 1}, {half, 0}, {half + 1, 0}, {whole - 1, 0},
	} {
		makes(t, "alone", []api.Record{record(x, 1, c.told, address(1))}, set(x, 1, c.want, address(1)))
		least := min(c.want, 7)
		makes(t, "first", []api.Record{record(x, 1, c.told, address(1)), record(x, 1, 7, address(2))}, set(x, 1, least, address(1), address(2)))
		makes(t, "last", []api.Record{record(x, 1, 7, address(1)), record(x, 1, c.told, address(2))}, set(x, 1, least, address(1), address(2)))
	}
	for _, bad := range []int{math.MinInt, -1, whole, whole + 1, math.MaxInt} {
		makes(t, "out of bounds", []api.Record{record(x, 1, bad, address(1))})
		makes(t, "out of bounds, with another", []api.Record{record(x, 1, bad, address(1)), record(x, 1, 7, address(2))}, set(x, 1, 7, address(2)))
		makes(t, "of RRSIG", []api.Record{record(x, 1, 7, address(1)), record(x, api.TypeRRSIG, bad, sigOf(t, 1, 1))}, set(x, 1, 7, address(1)))
	}
}

// P8.1: records that are not right are lost: they give no letters, no TTL, no place in the order.
func TestSetsLost(t *testing.T) {
	good := []api.Record{record(www, 1, 9, address(1)), record(x, 1, 9, address(1))}
	want := []api.Set{set(www, 1, 9, address(1)), set(x, 1, 9, address(1))}
	lost := []api.Record{
		record(x, 1, 0, ""), record(x, 1, 0, "abc"), record(named("X"), 1, 0, "abcde"), record(named("X"), api.TypeNS, 0, "x"),
		record(root, api.TypeOPT, 0, ""), record(x, api.TypeOPT, 0, "\x00\x01\x00\x00"), record(x, other, 0, strings.Repeat("a", 2001)),
		record(x, api.TypeRRSIG, 0, ""), record(x, api.TypeRRSIG, 0, "\x00\x01"), record(x, api.TypeRRSIG, 0, sigOf(t, 1, 1)[:20]),
	}
	for _, kind := range []int{math.MinInt, -1, 65536, 65537, whole + 1, math.MaxInt} {
		lost = append(lost, record(x, kind, 0, address(7)))
		lost = append(lost, api.Record{Name: x, Type: 1, Class: kind, Data: address(7)})
		lost = append(lost, api.Record{Name: x, Type: api.TypeRRSIG, Class: kind, Data: sigOf(t, 1, 1)})
	}
	for _, n := range wrongNames() {
		lost = append(lost, record(n, 1, 0, address(7)), record(n, api.TypeRRSIG, 0, sigOf(t, 1, 1)))
	}
	for _, bad := range lost {
		makes(t, "alone", []api.Record{bad})
		makes(t, "ahead", slices.Concat([]api.Record{bad}, good), want...)
		makes(t, "behind", slices.Concat(good, []api.Record{bad}), want...)
	}
	makes(t, "all of them", slices.Concat(lost, good, lost), want...)
}

// P8.1: the 200th of the Data is the last one; what is behind it is lost, with its TTL, another set's is not.
func TestSetsFull(t *testing.T) {
	var l []api.Record
	for i := range 200 {
		l = append(l, record(x, 1, 9, address(i)), record(x, 1, 9, address(i)))
	}
	full := set(x, 1, 9, addresses(200)...)
	makes(t, "200", l, full)
	makes(t, "199", l[:398], set(x, 1, 9, addresses(199)...))
	least := slices.Clone(l)
	least[398].TTL = 5
	makes(t, "the 200th one's TTL", least[:399], set(x, 1, 5, full.Data...))
	behind := slices.Concat(l, []api.Record{record(x, 1, 5, address(200)), record(x, 1, 4, address(0)), record(x, 1, half, address(201)), record(www, 1, 8, address(200))})
	makes(t, "201", behind, full, set(www, 1, 8, address(200)))
	sign := sigOf(t, 1, 1)
	makes(t, "201, signed", slices.Concat(behind, []api.Record{record(x, api.TypeRRSIG, 1, sign)}),
		api.Set{Name: x, Type: 1, Class: 1, TTL: 9, Data: full.Data, Sigs: []string{sign}}, set(www, 1, 8, address(200)))
}

// P8.1: records of RRSIG go to the set of their name, class and Covered, wherever they stand.
func TestSetsSigs(t *testing.T) {
	one, two, of := sigOf(t, 1, 1), sigOf(t, 1, 2), sigOf(t, other, 1)
	sig := func(n, d string) api.Record { return record(n, api.TypeRRSIG, 1, d) }
	a, b := record(x, 1, 9, address(1)), record(x, 1, 9, address(2))
	signed := func(sigs ...string) api.Set {
		s := set(x, 1, 9, address(1), address(2))
		s.Sigs = sigs
		return s
	}
	makes(t, "behind", []api.Record{a, b, sig(x, one)}, signed(one))
	makes(t, "ahead", []api.Record{sig(x, one), a, b}, signed(one))
	makes(t, "between", []api.Record{a, sig(x, one), b}, signed(one))
	makes(t, "in their order", []api.Record{sig(x, two), a, b, sig(x, one)}, signed(two, one))
	makes(t, "in other letters, which are not the set's", []api.Record{sig(named("X"), one), a, b}, signed(one))
	makes(t, "twice", []api.Record{sig(x, one), a, sig(x, two), sig(named("X"), one), b, sig(x, two)}, signed(one, two))
	upper := strings.Replace(one, x, named("X"), 1)
	makes(t, "twice, but in letters of its Signer", []api.Record{a, b, sig(x, one), sig(x, upper)}, signed(one, upper))
	makes(t, "alone", []api.Record{sig(x, one), sig(x, two)})
	makes(t, "of another type", []api.Record{a, b, sig(x, of)}, signed())
	makes(t, "of another name", []api.Record{a, b, sig(www, one)}, signed())
	makes(t, "of RRSIG", []api.Record{a, b, sig(x, one), sig(x, sigOf(t, api.TypeRRSIG, 1))}, signed(one))
	makes(t, "of OPT", []api.Record{record(x, api.TypeOPT, 1, ""), a, b, sig(x, sigOf(t, api.TypeOPT, 1))}, signed())
	chaos := sig(x, one)
	chaos.Class = 3
	makes(t, "of another class", []api.Record{a, b, chaos}, signed())
	makes(t, "of a lost record's set", []api.Record{record(x, 1, 9, "abc"), sig(x, one)})
	makes(t, "with an awkward TTL", []api.Record{a, b, record(x, api.TypeRRSIG, whole-1, one), record(x, api.TypeRRSIG, 0, two)}, signed(one, two))
	both := set(x, other, 7, "a")
	both.Sigs = []string{of}
	makes(t, "two sets", []api.Record{sig(x, of), sig(x, one), record(x, other, 7, "a"), a, b}, both, signed(one))
}

// P8.1: the 200th of the Sigs is the last one.
func TestSetsFullSigs(t *testing.T) {
	sigs := sigsOf(t, 1, 201)
	var l []api.Record
	for _, sign := range sigs {
		l = append(l, record(x, api.TypeRRSIG, 9, sign), record(x, api.TypeRRSIG, 9, sign))
	}
	l = append(l, record(x, 1, 9, address(1)), record(www, 1, 9, address(1)), record(www, api.TypeRRSIG, 9, sigs[200]))
	full, next := set(x, 1, 9, address(1)), set(www, 1, 9, address(1))
	full.Sigs, next.Sigs = sigs[:200], sigs[200:]
	makes(t, "201", l, full, next)
	full.Sigs = sigs[1:]
	makes(t, "200", l[2:], full, next)
}

// P8.1: the records of a right set, and none of another one.
func TestRecords(t *testing.T) {
	s := api.Set{Name: named("Www", "x"), Type: api.TypeNS, Class: 3, TTL: 60, Data: []string{named("B"), named("a")}, Sigs: sigsOf(t, api.TypeNS, 2)}
	want := []api.Record{
		{Name: s.Name, Type: api.TypeNS, Class: 3, TTL: 60, Data: named("B")},
		{Name: s.Name, Type: api.TypeNS, Class: 3, TTL: 60, Data: named("a")},
		{Name: s.Name, Type: api.TypeRRSIG, Class: 3, TTL: 60, Data: s.Sigs[0]},
		{Name: s.Name, Type: api.TypeRRSIG, Class: 3, TTL: 60, Data: s.Sigs[1]},
	}
	if got := rrset.Records(s); !slices.Equal(got, want) {
		t.Errorf("%+v, want %+v", got, want)
	}
	s.Sigs = []string{s.Sigs[1], s.Sigs[1]}
	if got := rrset.Records(s); len(got) != 4 || got[2] != want[3] || got[3] != want[3] {
		t.Errorf("of a Sig twice: %+v", got)
	}
	s.Sigs = nil
	if got := rrset.Records(s); !slices.Equal(got, want[:2]) {
		t.Errorf("%+v, want %+v", got, want[:2])
	}
	long := set(x, 1, half, address(1))
	twice := set(x, 1, 1, address(1), address(1))
	for _, bad := range []api.Set{{}, long, twice, set(x, 1, 1), set("x", 1, 1, address(1)), set(x, api.TypeOPT, 1, "")} {
		if got := rrset.Records(bad); len(got) != 0 {
			t.Errorf("of %+v: %+v", bad, got)
		}
	}
}
