package local_test

import (
	"math/rand"
	"slices"
	"strings"
	"testing"

	"guidepost/api"
	"guidepost/local"
	"guidepost/name"
)

// P14.1, P14.2: a slow second reading, over all zones and sets, says the same.
func TestAsRead(t *testing.T) {
	r := rand.New(rand.NewSource(141))
	times := map[string]int{}
	for range 6000 {
		list := drawnLocals(r)
		x, e := local.New(list)
		if (e == api.OK) != slowRight(list) || (e == api.OK) != (x != nil) || e != api.OK && e != api.ErrConf {
			t.Fatal(list, x, e)
		}
		if e != api.OK {
			times["refused"]++
			continue
		}
		times["taken"]++
		for range 20 {
			n, kind := drawnAsk(r, list)
			if !agree(x, list, n, kind) {
				t.Fatalf("%v %q %d: %s, %s", list, n, kind, answered(x, n, kind), slowAnswer(list, n, kind))
			}
			word, _, _ := strings.Cut(answered(x, n, kind), ",")
			times[word]++
		}
	}
	for _, word := range append(whats(), "taken", "refused") {
		if times[word] < 300 {
			t.Error("hardly tried:", word, times)
		}
	}
}

// rightLocals are drawn zones that are right, and not none.
func rightLocals(seed int64, count int) [][]api.Local {
	r := rand.New(rand.NewSource(seed))
	var all [][]api.Local
	for len(all) < count {
		if list := drawnLocals(r); len(list) > 0 && slowRight(list) {
			all = append(all, list)
		}
	}
	return all
}

// P14.3: what is told of a name is what its nearest zone tells, when it is there alone; zones above and beside it, and their order, change nothing.
func TestNearestAlone(t *testing.T) {
	r := rand.New(rand.NewSource(142))
	above := 0
	for _, list := range rightLocals(143, 3000) {
		x, turned := of(t, list), of(t, backward(list))
		for range 20 {
			n, kind := drawnAsk(r, list)
			got := answered(x, n, kind)
			if answered(turned, n, kind) != got || zoned(turned, n) != zoned(x, n) {
				t.Fatalf("%v %q %d", list, n, kind)
			}
			place := slowZone(list, n)
			if place < 0 {
				continue
			}
			if alone := of(t, list[place:place+1]); answered(alone, n, kind) != got || zoned(alone, n) != zoned(x, n) {
				t.Fatalf("%v %q %d: %s, %s", list, n, kind, got, answered(alone, n, kind))
			}
			if slices.ContainsFunc(list, func(z api.Local) bool { return len(z.Name) < len(list[place].Name) && name.Under(n, z.Name) }) {
				above++
			}
		}
	}
	if above < 1000 {
		t.Error("hardly tried:", above)
	}
}

// P14.3: a zone further up changes nothing of what a nearer one tells, though it has sets of the same names; and none below changes what is told above.
func TestZonesWithinZones(t *testing.T) {
	upper := "static s.\nx.n.s. 1 A 10.0.0.1\nn.s. 1 TXT \"up\"\ny.n.s. 1 A 10.0.0.2\n"
	for kind, wants := range map[string][]want{
		"static n.s.\nx.n.s. 2 A 10.0.0.9":      {{"x.n.s. A", "Data, x.n.s. 2 A 10.0.0.9"}, {"n.s. TXT", "Empty"}, {"y.n.s. A", "Nobody"}},
		"transparent n.s.\nx.n.s. 2 A 10.0.0.9": {{"x.n.s. A", "Data, x.n.s. 2 A 10.0.0.9"}, {"n.s. TXT", "Empty"}, {"y.n.s. A", "Pass"}},
		"redirect N.s.\nn.s. 2 A 10.0.0.9":      {{"x.n.s. A", "Data, x.n.s. 2 A 10.0.0.9"}, {"n.s. TXT", "Empty"}, {"y.n.s. A", "Data, y.n.s. 2 A 10.0.0.9"}},
		"refuse n.S.":                           {{"x.n.s. A", "Refuse"}, {"n.s. TXT", "Refuse"}, {"y.n.s. A", "Refuse"}},
		"deny n.s.":                             {{"x.n.s. A", "Drop"}, {"n.s. TXT", "Drop"}, {"y.n.s. A", "Drop"}},
	} {
		for _, list := range [][]api.Local{locals(upper + kind), locals(kind + "\n" + upper)} {
			answers(t, list, wants...)
			answers(t, list, want{"s. A", "Empty"}, want{"m.s. A", "Nobody"}, want{"nn.s. A", "Nobody"})
		}
	}
	// That a name under it is a zone does not make a name be there: that takes sets of its own zone.
	answers(t, locals("static s.\nstatic a.b.s.\na.b.s. 1 A 10.0.0.1"), want{"b.s. A", "Nobody"}, want{"a.b.s. A", "Data, a.b.s. 1 A 10.0.0.1"}, want{"s. A", "Empty"})
	answers(t, locals("static s.\nx.a.b.s. 1 A 10.0.0.1\ndeny a.b.s."), want{"b.s. A", "Empty"}, want{"x.a.b.s. A", "Drop"})
}

// P14.3: of one name LStatic tells not both Nobody and Data, whatever type is asked; Nobody of one type is Nobody of all.
func TestNobodyOrData(t *testing.T) {
	r := rand.New(rand.NewSource(144))
	times := map[bool]int{}
	for _, list := range rightLocals(145, 3000) {
		x := of(t, list)
		for range 20 {
			n, _ := drawnAsk(r, list)
			count := map[int]int{}
			for _, kind := range []int{api.TypeA, api.TypeTXT, api.TypeMX, api.TypeANY, 65280, -1, 65536} {
				what, _ := x.Answer(n, kind)
				count[what]++
			}
			if place := slowZone(list, n); place < 0 || list[place].Kind != api.LStatic {
				continue
			}
			times[count[local.Nobody] > 0]++
			if nobody := count[local.Nobody]; nobody != 0 && nobody != 7 || count[local.Data]+count[local.Empty]+nobody != 7 {
				t.Fatalf("%v %q: %v", list, n, count)
			}
		}
	}
	if times[true] < 1000 || times[false] < 1000 {
		t.Error("hardly tried:", times)
	}
}

// Many zones, within each other as deep as names go: each is found.
func TestManyZones(t *testing.T) {
	var list []api.Local
	for n := longest; n != "\x00"; n = must(name.Parent(n)) {
		list = append(list, api.Local{Name: n, Kind: 1 + len(list)%5})
	}
	for i := range 5000 {
		n := must(name.Of([]string{strings.Repeat("z", 1+i%60), string([]byte{byte(i >> 8), byte(i)})}))
		list = append(list, api.Local{Name: n, Kind: 1 + i%5})
	}
	x := of(t, list)
	for _, z := range list {
		if got, found := x.Zone(z.Name); got != z.Name || !found {
			t.Fatalf("%q: %q, %v", z.Name, got, found)
		}
		want := []int{0, local.Drop, local.Refuse, local.Empty, local.Empty, local.Empty}[z.Kind]
		if what, sets := x.Answer(z.Name, api.TypeA); what != want || len(sets) != 0 {
			t.Fatalf("%q: %d, %v", z.Name, what, sets)
		}
	}
}
