package zone

import (
	"guidepost/api"
	"guidepost/data"
	"guidepost/name"
)

// maxTTL is the greatest TTL that a record may have.
const maxTTL = 1<<32 - 1

// star is how the name of a wildcard begins.
const star = "*"

// rightRecords is whether records are each right, and the zone's. (data.Right knows the number of a type.)
func rightRecords(list []api.Record, apex string) bool {
	for _, x := range list {
		right := x.Type != api.TypeOPT && x.Class == api.IN && x.TTL >= 0 && x.TTL <= maxTTL && data.Right(x.Type, x.Data)
		if !right || !name.Under(x.Name, apex) {
			return false
		}
	}
	return true
}

// rightSigns is whether each signature has a set that it signs: else it is lost.
func (t tree) rightSigns(list []api.Record) bool {
	for _, x := range list {
		if x.Type != api.TypeRRSIG {
			continue
		}
		g, _ := data.Sig(x.Data) // the record is right
		if !t.has(x.Name, g.Covered) {
			return false
		}
	}
	return true
}

func (t tree) rightApex() bool {
	return t.has(t.apex, api.TypeSOA) && t.has(t.apex, api.TypeNS)
}

func (t tree) rightSets() bool {
	for _, s := range t.sets {
		if !t.rightKind(s) || !t.rightBeside(s) || !t.rightBelow(s) {
			return false
		}
	}
	return true
}

// rightKind is whether a set is as its type asks.
func (t tree) rightKind(s api.Set) bool {
	switch s.Type {
	case api.TypeSOA:
		return len(s.Data) == 1 && name.Equal(s.Name, t.apex)
	case api.TypeCNAME:
		return len(s.Data) == 1
	case api.TypeDNAME:
		return len(s.Data) == 1 && !isWildcard(s.Name)
	case api.TypeNS:
		return !isWildcard(s.Name)
	}
	return true
}

// rightBeside is whether a set may stand beside the others of its name: beside a CNAME hardly any may.
func (t tree) rightBeside(s api.Set) bool {
	return s.Type == api.TypeCNAME || s.Type == api.TypeNSEC || !t.has(s.Name, api.TypeCNAME)
}

// rightBelow is whether a set may stand below what is above it: nothing below a DNAME, and below a cut only what its servers are found by.
func (t tree) rightBelow(s api.Set) bool {
	if _, found := t.dnameAbove(s.Name); found {
		return false
	}
	cut, found := t.firstCut(s.Name)
	if !found || isAddress(s.Type) {
		return true
	}
	return name.Equal(cut.Name, s.Name) && ofCut(s.Type)
}

func isWildcard(n string) bool {
	labels := name.Labels(n)
	return len(labels) > 0 && labels[0] == star
}

func isAddress(kind int) bool {
	return kind == api.TypeA || kind == api.TypeAAAA
}

// ofCut is whether a type is one of those by which the zone tells of a cut.
func ofCut(kind int) bool {
	return kind == api.TypeNS || kind == api.TypeDS || kind == api.TypeNSEC
}
