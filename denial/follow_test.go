package denial_test

import (
	"math/rand"
	"slices"
	"testing"

	"guidepost/api"
	"guidepost/denial"
)

// drawnZone is a sound zone: an apex, names, wildcards, cuts; nothing below cuts and DNAMEs.
func drawnZone(r *rand.Rand) []owned {
	zone := []owned{own("x", kindNS, kindSOA, kindKEY)}
	for range r.Intn(10) {
		n := x
		for range 1 + r.Intn(3) {
			n = "\x01" + pick(r, "a", "b", "c", "*") + n
		}
		types := pick(r, []int{kindA}, []int{kindTXT, kindMX}, []int{kindNS}, []int{kindNS, kindDS}, []int{kindDNAME}, []int{kindCNAME}, []int{kindA, kindTXT})
		zone = append(zone, owned{n, types})
	}
	closed := func(o owned) bool {
		return !slices.Contains(o.types, kindSOA) && (slices.Contains(o.types, kindNS) || slices.Contains(o.types, kindDNAME))
	}
	var sound []owned
	for i, o := range zone {
		hidden := slices.ContainsFunc(zone, func(p owned) bool { return closed(p) && p.n != o.n && isUnder(path(o.n), path(p.n)) })
		twice := slices.ContainsFunc(zone[:i], func(p owned) bool { return p.n == o.n })
		if !hidden && !twice {
			sound = append(sound, o)
		}
	}
	return sound
}

// tree is what is true of a zone.
type tree []owned

// of is the name's own entry; nil, if it has no types.
func (z tree) of(n string) *owned {
	for i := range z {
		if slices.Equal(path(z[i].n), path(n)) {
			return &z[i]
		}
	}
	return nil
}

// there is whether a name is, itself or as one above others.
func (z tree) there(n string) bool {
	return slices.ContainsFunc(z, func(o owned) bool { return isUnder(path(o.n), path(n)) })
}

// away is whether a name is below a cut or a DNAME of the zone.
func (z tree) away(n string) bool {
	return slices.ContainsFunc(z, func(o owned) bool {
		passes := slices.Contains(o.types, kindDNAME) || slices.Contains(o.types, kindNS) && !slices.Contains(o.types, kindSOA)
		return passes && len(path(n)) > len(path(o.n)) && isUnder(path(n), path(o.n))
	})
}

// encloser is the nearest name above n that is there.
func (z tree) encloser(n string) string {
	p := path(n)
	for i := len(p) - 1; ; i-- {
		if z.there(wired(p[:i])) {
			return wired(p[:i])
		}
	}
}

// chains are the zone's, by NSEC and by NSEC3, in any order.
func chains(r *rand.Rand, zone []owned) [][]api.Set {
	all := [][]api.Set{linked(zone), hashLinked(zone, x, "", 0, 0), hashLinked(zone, x, "salt", 3, 0), hashLinked(zone, x, "", 0, 1)}
	for _, l := range all {
		r.Shuffle(len(l), func(i, j int) { l[i], l[j] = l[j], l[i] })
	}
	return all
}

// every is each name that could be in a drawn zone, and some that are deeper.
func every() []string {
	list, last := []string{x}, []string{x}
	for range 3 {
		var next []string
		for _, n := range last {
			for _, label := range []string{"a", "B", "*", "d"} {
				next = append(next, "\x01"+label+n)
			}
		}
		list, last = append(list, next...), next
	}
	return list
}

// P9.6: by a whole chain nothing that the zone has is proved away; and what it has not is.
func TestWholeChain(t *testing.T) {
	r := rand.New(rand.NewSource(961))
	names := every()
	kinds := []int{kindA, kindTXT, kindMX, kindNS, kindDS, kindCNAME}
	for range 25 {
		zone := tree(drawnZone(r))
		for i, l := range chains(r, zone) {
			for _, n := range names {
				holdName(t, zone, l, n, i > 0, i == 3)
				for _, kind := range kinds {
					holdType(t, zone, l, n, kind, i == 3)
				}
			}
			if t.Failed() {
				t.Fatal(zone)
			}
		}
	}
}

// holdName holds Name and Wild by a whole chain against the zone.
func holdName(t *testing.T, zone tree, l []api.Set, n string, hashed, out bool) {
	t.Helper()
	got, there := denial.Name(l, n, x), zone.there(n)
	if there && got != denial.None {
		t.Errorf("%q is there: %d", n, got)
	}
	if there || zone.away(n) {
		return
	}
	above := zone.encloser(n)
	if got, want := denial.Wild(l, n, above, x), value(true, out); got != want {
		t.Errorf("nothing is nearer to %q than %q: %d", n, above, got)
	}
	// A wildcard that has nothing but names below it is covered by an NSEC, but matched by an NSEC3.
	wild := zone.of("\x01*"+above) != nil || hashed && zone.there("\x01*"+above)
	if got != value(!wild, out) {
		t.Errorf("%q is not there: %d", n, got)
	}
}

// holdType holds Type and Cut by a whole chain against the zone.
func holdType(t *testing.T, zone tree, l []api.Set, n string, kind int, out bool) {
	t.Helper()
	got, o := denial.Type(l, n, kind, x), zone.of(n)
	switch {
	case o != nil && slices.Contains(o.types, kind):
		if got != denial.None {
			t.Errorf("%q has %d: %d", n, kind, got)
		}
	case o == nil && zone.there(n):
		if got != denial.Proved {
			t.Errorf("%q has nothing but names below it: %d", n, got)
		}
	case o != nil && !slices.Contains(o.types, kindCNAME):
		cut := slices.Contains(o.types, kindNS) && !slices.Contains(o.types, kindSOA)
		if want := value((kind == kindDS) == cut || kind == kindDS && n != x, false); got != want {
			t.Errorf("%q has no %d: %d, want %d", n, kind, got, want)
		}
	}
	keyless := o != nil && n != x && slices.Contains(o.types, kindNS) && !slices.Contains(o.types, kindDS)
	if got := denial.Cut(l, n, x); keyless != (got == denial.Proved) {
		t.Errorf("a cut %q: %d", n, got)
	}
}

// P9.6: sets that match nothing of what is asked never turn Proved into None, if they come behind.
func TestMoreSets(t *testing.T) {
	r := rand.New(rand.NewSource(962))
	kept := 0
	for range 4000 {
		three := r.Intn(2) == 0
		one := func() api.Set {
			if three {
				return drawnNsec3(r, x)
			}
			return drawnNsec(r)
		}
		var l, more []api.Set
		for range 8 {
			l = append(l, one())
		}
		for range 4 {
			q := drawnAsk(r)
			if m := modelOf(l, x); m.of(q) != denial.Proved || m.three != three {
				continue
			}
			more = append(more, one())
			if m := modelOf(append(slices.Clone(l), more...), x); !touched(m, q.n, len(modelOf(l, x).facts)) {
				kept++
				if got := q.of(append(slices.Clone(l), more...), x); got == denial.None {
					t.Fatalf("%v, %v, %v: None", l, more, q)
				}
			}
		}
	}
	if kept < 200 {
		t.Error("hardly tried:", kept)
	}
}

// touched is whether a set behind the first ones matches the name, or one above it.
func touched(m model, n string, first int) bool {
	for p := path(n); ; p = p[:len(p)-1] {
		if slices.ContainsFunc(m.facts[first:], func(f fact) bool { return m.matches(f, p) }) {
			return true
		}
		if len(p) == 0 {
			return false
		}
	}
}
