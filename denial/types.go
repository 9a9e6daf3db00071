package denial

import (
	"slices"

	"guidepost/api"
)

// types are those that a name has.
type types []int

func (t types) has(kind int) bool { return slices.Contains(t, kind) }

// delegated is whether another zone begins at the name, and this is what the zone above has of it.
func (t types) delegated() bool {
	return t.has(api.TypeNS) && !t.has(api.TypeSOA)
}

// keyless is whether the zone that begins at the name has no keys that the zone above knows.
func (t types) keyless() bool {
	return t.delegated() && !t.has(api.TypeDS)
}

// lack is whether the name has none of a type, and the zone is the one to say so: of DS that is the zone above (the root has none), of all else the zone below.
func (t types) lack(kind int, atRoot bool) bool {
	if t.has(kind) || t.has(api.TypeCNAME) {
		return false
	}
	if kind == api.TypeDS {
		return atRoot || !t.has(api.TypeSOA)
	}
	return !t.delegated()
}
