package zone

import (
	"slices"

	"guidepost/api"
	"guidepost/data"
	"guidepost/name"
)

// maxType is the greatest number of a type.
const maxType = 1<<16 - 1

// asked is a right zone, of which something is asked.
type asked struct {
	tree
	name string
	kind int
	do   bool
}

// lookup is the answer of a right zone; its sets' memory is given away in it.
func (t tree) lookup(n string, kind int, do bool) Answer {
	if !do {
		t.forgetSigs()
	}
	return asked{t, n, kind, do}.answer()
}

func (t tree) forgetSigs() {
	for i := range t.sets {
		t.sets[i].Sigs = nil
	}
}

// answer asks of all that is above the name ahead of the name itself.
func (q asked) answer() Answer {
	if !name.Under(q.name, q.apex) {
		return Answer{Kind: api.KOutside}
	}
	if ns, found := q.firstCut(q.name); found && !q.isDsOf(ns.Name) {
		return q.referral(ns)
	}
	if dname, found := q.dnameAbove(q.name); found {
		return q.moved(dname)
	}
	sets, wild, found := q.owned()
	if !found {
		return q.denied(api.KNXDomain)
	}
	a := q.chosen(sets)
	if wild != "" && a.Kind != api.KNoData {
		a.Authority = q.proofs()
	}
	a.Wild = wild
	return a
}

// isDsOf is whether the DS of a cut is asked for: that is the zone's, and not of the one below.
func (q asked) isDsOf(cut string) bool {
	return q.kind == api.TypeDS && name.Equal(cut, q.name)
}

// referral sends on to the servers of a cut, with their addresses as far as the zone has any.
func (q asked) referral(ns api.Set) Answer {
	a := Answer{Kind: api.KReferral, Authority: []api.Set{ns}}
	if ds, found := q.set(ns.Name, api.TypeDS); !found {
		a.Authority = append(a.Authority, q.proofs()...)
	} else if q.do {
		a.Authority = append(a.Authority, ds)
	}
	// The names in a set's Data are each another one, so that no set comes twice.
	for _, server := range ns.Data {
		for _, kind := range []int{api.TypeA, api.TypeAAAA} {
			if s, found := q.set(server, kind); found {
				a.Extra = append(a.Extra, s)
			}
		}
	}
	return a
}

// moved sends on to where a DNAME moves the name, if that is not too long to be one.
func (q asked) moved(dname api.Set) Answer {
	to, e := name.Moved(q.name, dname.Name, dname.Data[0])
	if e != api.OK {
		return Answer{Kind: api.KAnswer, Answer: []api.Set{dname}}
	}
	cname := api.Set{Name: q.name, Type: api.TypeCNAME, Class: api.IN, TTL: dname.TTL, Data: []string{to}}
	return Answer{Kind: api.KCname, Answer: []api.Set{dname, cname}, To: to}
}

// owned are the sets that count as the name's, if it is there or a wildcard makes it; and, if one does, the name above that.
func (q asked) owned() (sets []api.Set, wild string, found bool) {
	nearest := q.nearest(q.name)
	if nearest == q.name {
		return q.setsOf(q.name), "", true
	}
	wildcard, e := name.Child(star, nearest)
	if e != api.OK {
		return nil, "", false
	}
	sets = q.setsOf(wildcard)
	for i := range sets {
		sets[i].Name = q.name
	}
	return sets, nearest, len(sets) > 0
}

// chosen is the answer by the sets that are the name's.
func (q asked) chosen(sets []api.Set) Answer {
	for _, s := range sets {
		if s.Type == api.TypeCNAME && q.goesOn() {
			return Answer{Kind: api.KCname, Answer: []api.Set{s}, To: s.Data[0]}
		}
	}
	if fit := slices.DeleteFunc(sets, q.passesOver); len(fit) > 0 {
		return Answer{Kind: api.KAnswer, Answer: fit}
	}
	return q.denied(api.KNoData)
}

// goesOn is whether who asks is sent on by a CNAME, rather than told of it.
func (q asked) goesOn() bool {
	return q.kind != api.TypeCNAME && q.kind != api.TypeANY && q.kind != api.TypeNSEC
}

// passesOver is whether a set of the name is none that was asked for.
func (q asked) passesOver(s api.Set) bool {
	if q.kind == api.TypeANY {
		return proves(s.Type)
	}
	return s.Type != q.kind
}

// denied says that there is nothing, and by SOA for how long that holds.
func (q asked) denied(kind int) Answer {
	soa, _ := q.set(q.apex, api.TypeSOA) // the zone is right
	has, _ := data.Soa(soa.Data[0])
	soa.TTL = min(soa.TTL, has.Minimum)
	return Answer{Kind: kind, Authority: append([]api.Set{soa}, q.proofs()...)}
}

// proofs are for those who asked for them.
func (q asked) proofs() []api.Set {
	if !q.do {
		return nil
	}
	return q.tree.proofs()
}
