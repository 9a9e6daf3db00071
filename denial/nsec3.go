package denial

import (
	"strings"

	"guidepost/api"
	"guidepost/name"
)

// hashLink is an NSEC3: of the names whose hashes are between its own and the next one there is none; or, with opt-out, none but cuts without keys.
type hashLink struct {
	own, next string
	optOut    bool
	types     types
}

// hashes is NSEC3s of a zone, all of which hash alike; some may be missing.
type hashes struct {
	apex, salt string
	rounds     int
	list       []hashLink
}

// noName proves that a name is not, nor a wildcard that would make it.
func (h hashes) noName(n string) int {
	if _, found := h.matching(n); found {
		return None
	}
	encloser, closer, found := h.encloser(n)
	if !found {
		return None
	}
	at, found := h.covering(closer)
	if !found {
		return None
	}
	wild, e := name.Child(star, encloser)
	if e != api.OK {
		return None
	}
	if _, found := h.covering(wild); !found {
		return None
	}
	return at.worth()
}

// noType proves that a name has none of a type, itself, or as a cut that was left out, or by the wildcard that makes it.
func (h hashes) noType(n string, kind int) int {
	if at, found := h.matching(n); found {
		if at.lacks(kind) {
			return Proved
		}
		return None
	}
	encloser, closer, found := h.encloser(n)
	if !found {
		return None
	}
	at, found := h.covering(closer)
	if !found {
		return None
	}
	if kind == api.TypeDS && at.optOut {
		return OptOut
	}
	wild, e := name.Child(star, encloser)
	if e != api.OK {
		return None
	}
	if by, found := h.matching(wild); found && by.lacks(kind) {
		return at.worth()
	}
	return None
}

// noNearer proves that no name is nearer to n than the encloser.
func (h hashes) noNearer(n, encloser string) int {
	at, found := h.covering(oneCloser(n, encloser))
	if !found {
		return None
	}
	return at.worth()
}

// noKeys proves that a name is a cut without keys, or may be one that was left out.
func (h hashes) noKeys(n string) int {
	if at, found := h.matching(n); found {
		if at.types.keyless() {
			return Proved
		}
		return None
	}
	_, closer, found := h.encloser(n)
	if !found {
		return None
	}
	if at, found := h.covering(closer); found && at.optOut {
		return OptOut
	}
	return None
}

// encloser is the nearest name above n that is there, and the name one label closer to n. (The apex is enclosed by nothing of its zone.)
func (h hashes) encloser(n string) (encloser, closer string, found bool) {
	for closer = n; below(closer, h.apex); closer = encloser {
		encloser, _ = name.Parent(closer) // it is below a name
		if _, found := h.matching(encloser); found {
			return encloser, closer, true
		}
	}
	return "", "", false
}

// oneCloser is the name one label longer than an encloser that n is below, towards n.
func oneCloser(n, encloser string) string {
	closer := n
	for {
		above, e := name.Parent(closer)
		if e != api.OK || name.Equal(above, encloser) {
			return closer
		}
		closer = above
	}
}

// matching is the first NSEC3 of a name.
func (h hashes) matching(n string) (hashLink, bool) {
	sum := hashed(n, h.salt, h.rounds)
	for _, at := range h.list {
		if at.own == sum {
			return at, true
		}
	}
	return hashLink{}, false
}

// covering is the first NSEC3 that covers a name.
func (h hashes) covering(n string) (hashLink, bool) {
	sum := hashed(n, h.salt, h.rounds)
	for _, at := range h.list {
		if inGap(strings.Compare(sum, at.own), strings.Compare(sum, at.next), strings.Compare(at.own, at.next)) {
			return at, true
		}
	}
	return hashLink{}, false
}

// lacks is whether the name has none of a type. The set's own name is never the root: a hash stands ahead of it.
func (at hashLink) lacks(kind int) bool {
	return at.types.lack(kind, false)
}

// worth is what a proof is worth that stands on this gap.
func (at hashLink) worth() int {
	if at.optOut {
		return OptOut
	}
	return Proved
}
