package zone

import (
	"slices"

	"guidepost/api"
	"guidepost/name"
	"guidepost/rrset"
)

// setKey is what a set is found by, the name in small letters.
type setKey struct {
	name string
	kind int
}

// tree is a zone taken apart: its sets, where each of them is, and of each name (in small letters) how many sets are of it or of names under it.
type tree struct {
	apex   string
	sets   []api.Set
	places map[setKey]int
	there  map[string]int
}

// treeOf is the tree of a zone, and whether the zone is right.
func treeOf(z api.Zone) (tree, bool) {
	if !name.Right(z.Apex) || len(z.Records) > api.MaxRecords || !rightRecords(z.Records, z.Apex) {
		return tree{}, false
	}
	t := grown(z)
	return t, t.rightSigns(z.Records) && t.rightApex() && t.rightSets()
}

// grown is the tree of a zone whose records are all right, and under its apex.
func grown(z api.Zone) tree {
	t := tree{z.Apex, rrset.Sets(z.Records), map[setKey]int{}, map[string]int{}}
	for place, s := range t.sets {
		t.places[setKey{name.Lower(s.Name), s.Type}] = place
		for n := range down(t.apex, s.Name) {
			t.there[name.Lower(n)]++
		}
	}
	return t
}

// set is the set of a name and type, if there is one.
func (t tree) set(n string, kind int) (api.Set, bool) {
	place, found := t.places[setKey{name.Lower(n), kind}]
	if !found {
		return api.Set{}, false
	}
	return t.sets[place], true
}

func (t tree) has(n string, kind int) bool {
	_, found := t.set(n, kind)
	return found
}

// setsOf are all sets of a name, in the zone's order.
func (t tree) setsOf(n string) []api.Set {
	var list []api.Set
	for _, s := range t.sets {
		if name.Equal(s.Name, n) {
			list = append(list, s)
		}
	}
	return list
}

// nearest is n, or the longest name above it, that is there, in the letters of n. (The apex of a right zone always is.)
func (t tree) nearest(n string) string {
	nearest := t.apex
	for at := range down(t.apex, n) {
		if t.there[name.Lower(at)] == 0 {
			break
		}
		nearest = at
	}
	return nearest
}

// firstCut is the NS of the cut that is n, or above it: from the apex down the first one. What is under it is not the zone's.
func (t tree) firstCut(n string) (api.Set, bool) {
	for at := range down(t.apex, n) {
		if ns, found := t.set(at, api.TypeNS); found && !name.Equal(at, t.apex) {
			return ns, true
		}
	}
	return api.Set{}, false
}

// dnameAbove is the DNAME of a name above n.
func (t tree) dnameAbove(n string) (api.Set, bool) {
	for at := range down(t.apex, n) {
		if dname, found := t.set(at, api.TypeDNAME); found && at != n {
			return dname, true
		}
	}
	return api.Set{}, false
}

// proofs are the sets by which a zone denies. A wildcard's NSEC may stand in the same answer as what was asked for, so theirs is memory of its own.
func (t tree) proofs() []api.Set {
	var list []api.Set
	for _, s := range t.sets {
		if proves(s.Type) {
			s.Data, s.Sigs = slices.Clone(s.Data), slices.Clone(s.Sigs)
			list = append(list, s)
		}
	}
	return list
}

// proves is whether sets of a type are there to deny others.
func proves(kind int) bool {
	return kind == api.TypeNSEC || kind == api.TypeNSEC3
}
