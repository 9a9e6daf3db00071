package denial

import (
	"guidepost/api"
	"guidepost/data"
	"guidepost/digest"
	"guidepost/name"
	"guidepost/rrset"
)

// An NSEC3 counts only if its hash is SHA-1, which has so many bytes, and it has no other flag than opt-out.
const (
	sha1Alg    = 1
	sha1Bytes  = 20
	optOutFlag = 1
)

// way is a way of proving: the methods of NSECs or of NSEC3s, whichever count.
type way struct {
	noName   func(n string) int
	noType   func(n string, kind int) int
	noNearer func(n, encloser string) int
	noKeys   func(n string) int
}

// wayOf is the way of proving by the sets that count: NSECs, if there are any.
func wayOf(l []api.Set, apex string) way {
	if c := nsecs(l, apex); len(c) > 0 {
		return way{c.noName, c.noType, c.noNearer, c.noKeys}
	}
	h := nsec3s(l, apex)
	return way{h.noName, h.noType, h.noNearer, h.noKeys}
}

// nsecs are the NSECs that count, in their order.
func nsecs(l []api.Set, apex string) chain {
	var c chain
	for _, s := range l {
		if !single(s, api.TypeNSEC, apex) {
			continue
		}
		d, _ := data.Nsec(s.Data[0]) // the set is right
		c = append(c, link{s.Name, d.Next, d.Types})
	}
	return c
}

// nsec3s are the NSEC3s that count, in their order: the first one says how all of them hash.
func nsec3s(l []api.Set, apex string) hashes {
	h := hashes{apex: apex}
	for _, s := range l {
		if !single(s, api.TypeNSEC3, apex) {
			continue
		}
		own, told := hashTold(s.Name, apex)
		d, _ := data.Nsec3(s.Data[0]) // the set is right
		if !told || !known(d) {
			continue
		}
		if len(h.list) == 0 {
			h.salt, h.rounds = d.Salt, d.Rounds
		}
		if d.Salt == h.salt && d.Rounds == h.rounds {
			h.list = append(h.list, hashLink{own, d.Next, d.Flags == optOutFlag, d.Types})
		}
	}
	return h
}

// single is whether a set of this type, in the zone, is one that may count, whatever its data say.
func single(s api.Set, kind int, apex string) bool {
	return s.Type == kind && s.Class == api.IN && len(s.Data) == 1 && name.Under(s.Name, apex) && rrset.Right(s)
}

// hashTold is the hash that the name of an NSEC3 tells, if it is one right below the apex.
func hashTold(n, apex string) (string, bool) {
	parent, e := name.Parent(n)
	if e != api.OK || !name.Equal(parent, apex) {
		return "", false
	}
	own, e := digest.Unbase32(name.Labels(n)[0])
	return own, e == api.OK && len(own) == sha1Bytes
}

// known is whether it is known how an NSEC3 hashes and what it means.
func known(d api.Nsec3) bool {
	return d.Alg == sha1Alg && d.Flags&^optOutFlag == 0 && d.Rounds <= api.MaxRounds && len(d.Next) == sha1Bytes
}
