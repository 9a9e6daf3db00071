package denial

import (
	"guidepost/api"
	"guidepost/name"
)

const (
	root = "\x00"
	star = "*"
)

// link is an NSEC: between its owner and the next name there is none.
type link struct {
	owner, next string
	types       types
}

// chain is NSECs of a zone; some may be missing.
type chain []link

// noName proves that a name is not, nor a wildcard that would make it.
func (c chain) noName(n string) int {
	at, found := c.covering(n)
	if !found || name.Under(at.next, n) {
		return None
	}
	wild, e := name.Child(star, at.encloser(n))
	if e != api.OK {
		return None
	}
	if _, found := c.covering(wild); !found {
		return None
	}
	return Proved
}

// noType proves that a name has none of a type, itself, or as a name that only has names below it, or by the wildcard that makes it.
func (c chain) noType(n string, kind int) int {
	if at, found := c.matching(n); found {
		return at.noType(kind)
	}
	at, found := c.covering(n)
	if !found {
		return None
	}
	if name.Under(at.next, n) {
		return Proved
	}
	wild, e := name.Child(star, at.encloser(n))
	if e != api.OK {
		return None
	}
	if at, found := c.matching(wild); found {
		return at.noType(kind)
	}
	return None
}

// noNearer proves that no name is nearer to n than the encloser.
func (c chain) noNearer(n, encloser string) int {
	most := len(name.Labels(encloser))
	for _, at := range c {
		if at.covers(n) && !name.Under(at.next, n) && len(name.Labels(at.encloser(n))) <= most {
			return Proved
		}
	}
	return None
}

// noKeys proves that a name is a cut without keys.
func (c chain) noKeys(n string) int {
	if at, found := c.matching(n); found && at.types.keyless() {
		return Proved
	}
	return None
}

// matching is the first NSEC of a name.
func (c chain) matching(n string) (link, bool) {
	for _, at := range c {
		if name.Equal(at.owner, n) {
			return at, true
		}
	}
	return link{}, false
}

// covering is the first NSEC that covers a name.
func (c chain) covering(n string) (link, bool) {
	for _, at := range c {
		if at.covers(n) {
			return at, true
		}
	}
	return link{}, false
}

// covers is whether a name is in the gap. What is below a cut or a DNAME is not for the zone to deny.
func (at link) covers(n string) bool {
	if !Between(at.owner, n, at.next) {
		return false
	}
	passedOn := at.types.delegated() || at.types.has(api.TypeDNAME)
	return !passedOn || !name.Under(n, at.owner)
}

// encloser is, of a name in the gap, the nearest one above that is there, since a name below it is.
func (at link) encloser(n string) string {
	// All three are names, and both answers end n, so that the longer one has more labels.
	one, _ := name.Common(n, at.owner)
	other, _ := name.Common(n, at.next)
	if len(other) > len(one) {
		return other
	}
	return one
}

func (at link) noType(kind int) int {
	if at.types.lack(kind, at.owner == root) {
		return Proved
	}
	return None
}
