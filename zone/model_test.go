package zone_test

import (
	"slices"
	"strings"

	"guidepost/api"
	"guidepost/data"
	"guidepost/name"
	"guidepost/rrset"
	"guidepost/zone"
)

// path is a name's labels from the right, in small letters, each with a stroke behind it (no drawn label has one): a name is under another, if its path begins with the other's.
func path(n string) string {
	labels := name.Labels(n)
	slices.Reverse(labels)
	p := ""
	for _, label := range labels {
		p += strings.ToLower(label) + "/"
	}
	return p
}

// lost is whether Sets loses a record of the list.
func lost(list []api.Record, x api.Record) bool {
	if x.Type != api.TypeRRSIG {
		return len(rrset.Sets([]api.Record{x})) == 0
	}
	return !slices.ContainsFunc(list, func(o api.Record) bool {
		sets := rrset.Sets([]api.Record{o, x})
		return len(sets) == 1 && len(sets[0].Sigs) == 1
	})
}

// slowRight is Right, as the document tells it: each set is held against each other one.
func slowRight(z api.Zone) bool {
	if !name.Right(z.Apex) || len(z.Records) > 200 {
		return false
	}
	apex, sets := path(z.Apex), rrset.Sets(z.Records)
	for _, x := range z.Records {
		if lost(z.Records, x) || x.Class != api.IN || !strings.HasPrefix(path(x.Name), apex) {
			return false
		}
	}
	has := map[int]int{}
	for _, s := range sets {
		p := path(s.Name)
		if p == apex {
			has[s.Type]++
		}
		single := s.Type == api.TypeSOA || s.Type == api.TypeCNAME || s.Type == api.TypeDNAME
		star := strings.HasPrefix(s.Name, "\x01*") && (s.Type == api.TypeNS || s.Type == api.TypeDNAME)
		if single && len(s.Data) != 1 || star || s.Type == api.TypeSOA && p != apex {
			return false
		}
		for _, o := range sets {
			if !slowRightPair(s, o, p == apex) {
				return false
			}
		}
	}
	return has[api.TypeSOA] == 1 && has[api.TypeNS] == 1
}

// slowRightPair is whether a set may be in one zone with s.
func slowRightPair(s, o api.Set, isApex bool) bool {
	p, at := path(s.Name), path(o.Name)
	under := strings.HasPrefix(at, p)
	may := []int{api.TypeA, api.TypeAAAA}
	if at == p {
		may = append(may, api.TypeNS, api.TypeDS, api.TypeNSEC)
	}
	switch s.Type {
	case api.TypeCNAME:
		return at != p || o.Type == api.TypeCNAME || o.Type == api.TypeNSEC
	case api.TypeDNAME:
		return !under || at == p
	case api.TypeNS:
		return isApex || !under || slices.Contains(may, o.Type)
	}
	return true
}

// model is a right zone, read slowly.
type model struct {
	apex string
	sets []api.Set
	do   bool
}

// some are the sets for which something holds, in the zone's order.
func (m model) some(holds func(api.Set) bool) []api.Set {
	var list []api.Set
	for _, s := range m.sets {
		if !m.do {
			s.Sigs = nil
		}
		if holds(s) {
			list = append(list, s)
		}
	}
	return list
}

// of are the sets of a path and a type.
func (m model) of(p string, kind int) []api.Set {
	return m.some(func(s api.Set) bool { return path(s.Name) == p && s.Type == kind })
}

// isThere is whether a set is of the path, or under it.
func (m model) isThere(p string) bool {
	return len(m.some(func(s api.Set) bool { return strings.HasPrefix(path(s.Name), p) })) > 0
}

func (m model) proofs() []api.Set {
	return m.some(func(s api.Set) bool { return m.do && (s.Type == api.TypeNSEC || s.Type == api.TypeNSEC3) })
}

// lookup is Lookup of a name, a type.
func (m model) lookup(n string, kind int) zone.Answer {
	p := path(n)
	if !strings.HasPrefix(p, path(m.apex)) {
		return zone.Answer{Kind: api.KOutside}
	}
	cuts := m.some(func(s api.Set) bool {
		c := path(s.Name)
		return s.Type == api.TypeNS && c != path(m.apex) && strings.HasPrefix(p, c) && !(c == p && kind == api.TypeDS)
	})
	if len(cuts) > 0 {
		return m.referral(cuts[0])
	}
	for _, s := range m.some(func(s api.Set) bool { return s.Type == api.TypeDNAME }) {
		if d := path(s.Name); d != p && strings.HasPrefix(p, d) {
			return m.moved(n, s)
		}
	}
	if m.isThere(p) {
		return m.chosen(m.some(func(s api.Set) bool { return path(s.Name) == p }), kind, "")
	}
	// The name above is found from the bottom up.
	e := n
	for !m.isThere(path(e)) {
		e = e[1+int(e[0]):]
	}
	wild := m.some(func(s api.Set) bool { return path(s.Name) == path(e)+"*/" })
	if len(wild) == 0 {
		return m.denied(api.KNXDomain)
	}
	for i := range wild {
		wild[i].Name = n
	}
	return m.chosen(wild, kind, e)
}

func (m model) referral(ns api.Set) zone.Answer {
	a := zone.Answer{Kind: api.KReferral, Authority: []api.Set{ns}}
	ds := m.of(path(ns.Name), api.TypeDS)
	switch {
	case m.do && len(ds) > 0:
		a.Authority = append(a.Authority, ds...)
	case m.do:
		a.Authority = append(a.Authority, m.proofs()...)
	}
	for _, n := range ns.Data {
		a.Extra = append(a.Extra, m.of(path(n), api.TypeA)...)
		a.Extra = append(a.Extra, m.of(path(n), api.TypeAAAA)...)
	}
	return a
}

func (m model) moved(n string, d api.Set) zone.Answer {
	to := n[:len(n)-len(d.Name)] + d.Data[0]
	if len(to) > 255 {
		return zone.Answer{Kind: api.KAnswer, Answer: []api.Set{d}}
	}
	made := api.Set{Name: n, Type: api.TypeCNAME, Class: api.IN, TTL: d.TTL, Data: []string{to}}
	return zone.Answer{Kind: api.KCname, Answer: []api.Set{d, made}, To: to}
}

func (m model) chosen(own []api.Set, kind int, wild string) zone.Answer {
	var a zone.Answer
	for _, s := range own {
		any := kind == api.TypeANY && s.Type != api.TypeNSEC && s.Type != api.TypeNSEC3
		if s.Type == kind && kind != api.TypeANY || any {
			a.Kind = api.KAnswer
			a.Answer = append(a.Answer, s)
		}
	}
	for _, s := range own {
		if s.Type == api.TypeCNAME && kind != api.TypeCNAME && kind != api.TypeANY && kind != api.TypeNSEC {
			a = zone.Answer{Kind: api.KCname, Answer: []api.Set{s}, To: s.Data[0]}
		}
	}
	if a.Kind == 0 {
		a = m.denied(api.KNoData)
	} else if wild != "" {
		a.Authority = m.proofs()
	}
	a.Wild = wild
	return a
}

func (m model) denied(kind int) zone.Answer {
	soa := m.of(path(m.apex), api.TypeSOA)
	for i := range soa {
		x, _ := data.Soa(soa[i].Data[0])
		soa[i].TTL = min(soa[i].TTL, x.Minimum, half-1)
	}
	return zone.Answer{Kind: kind, Authority: append(soa, m.proofs()...)}
}

// message is what Reply is to send, cut or not.
func (m model) message(q api.Message) api.Message {
	a := m.lookup(q.Ask[0].Name, q.Ask[0].Type)
	r := api.Message{ID: q.ID, Reply: true, RD: q.RD, Ask: q.Ask, AA: a.Kind != api.KReferral && a.Kind != api.KOutside}
	r.Rcode = map[int]int{api.KNXDomain: api.NXDomain, api.KOutside: api.Refused}[a.Kind]
	for _, s := range a.Answer {
		r.Answer = append(r.Answer, rrset.Records(s)...)
	}
	for _, s := range a.Authority {
		r.Authority = append(r.Authority, rrset.Records(s)...)
	}
	for _, s := range a.Extra {
		r.Extra = append(r.Extra, rrset.Records(s)...)
	}
	if q.Edns.Has {
		r.Edns = api.Edns{Has: true, Size: 4096, Do: q.Edns.Do}
	}
	return r
}
