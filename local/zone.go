package local

import (
	"slices"
	"strings"

	"guidepost/api"
	"guidepost/name"
	"guidepost/rrset"
)

// zone has its sets in the order of their names, so that the sets of a name, and behind them those of the names under it, stand side by side. The sets of one name are in the order of the records.
type zone struct {
	name   string
	sets   []api.Set
	answer func(n string, kind int) (int, []api.Set) // the method of its Kind
}

// zoneOf is a zone that is right.
func zoneOf(l api.Local) *zone {
	z := &zone{name: strings.Clone(l.Name), sets: rrset.Sets(l.Records)}
	slices.SortStableFunc(z.sets, func(a, b api.Set) int { return name.Compare(a.Name, b.Name) })
	switch l.Kind {
	case api.LDeny:
		z.answer = z.drop
	case api.LRefuse:
		z.answer = z.refuse
	case api.LStatic:
		z.answer = z.static
	case api.LTransparent:
		z.answer = z.transparent
	case api.LRedirect:
		z.answer = z.redirect
	}
	return z
}

func (z *zone) drop(string, int) (int, []api.Set) {
	return Drop, nil
}

func (z *zone) refuse(string, int) (int, []api.Set) {
	return Refuse, nil
}

func (z *zone) static(n string, kind int) (int, []api.Set) {
	own, there := z.find(n)
	if !there {
		return Nobody, nil
	}
	return chosen(own, n, kind)
}

// transparent tells what static does, but leaves to others what is not there.
func (z *zone) transparent(n string, kind int) (int, []api.Set) {
	what, sets := z.static(n, kind)
	if what == Nobody {
		return Pass, nil
	}
	return what, sets
}

// redirect takes all sets for n's: they are of the zone's own name.
func (z *zone) redirect(n string, kind int) (int, []api.Set) {
	return chosen(z.sets, n, kind)
}

// find is the sets of a name, and whether it is there: as the zone's own, or because it, or a name under it, has sets.
func (z *zone) find(n string) (own []api.Set, there bool) {
	first, _ := slices.BinarySearchFunc(z.sets, n, func(s api.Set, n string) int { return name.Compare(s.Name, n) })
	end := first
	for end < len(z.sets) && name.Equal(z.sets[end].Name, n) {
		end++
	}
	hasSets := first < len(z.sets) && name.Under(z.sets[first].Name, n)
	return z.sets[first:end], hasSets || name.Equal(n, z.name)
}

// chosen are those of some sets that are asked for, told as n's, in memory of their own.
func chosen(sets []api.Set, n string, kind int) (int, []api.Set) {
	var list []api.Set
	for _, s := range sets {
		if s.Type == kind || kind == api.TypeANY {
			s.Name, s.Data = strings.Clone(n), slices.Clone(s.Data)
			list = append(list, s)
		}
	}
	if len(list) == 0 {
		return Empty, nil
	}
	return Data, list
}
