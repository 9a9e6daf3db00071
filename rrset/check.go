package rrset

import (
	"guidepost/api"
	"guidepost/curve"
	"guidepost/data"
	"guidepost/keys"
	"guidepost/name"
)

// A key signs a zone if it has this flag and this protocol.
const (
	zoneFlag     = 256
	zoneProtocol = 3
)

// The algorithms whose signatures can be verified.
const (
	rsaSha256 = 8
	p256      = 13
)

// madeBy is whether a signature says that it was made by this key, and the key is one that may sign.
func madeBy(g api.Sig, owner, key string) bool {
	k, e := data.Key(key)
	if e != api.OK || k.Flags&zoneFlag == 0 || k.Protocol != zoneProtocol || k.Alg != g.Alg {
		return false
	}
	tag, _ := keys.Tag(key) // the key is right
	return tag == g.Tag && name.Equal(owner, g.Signer)
}

// inTime is whether a time is one at which a signature holds. One that ends before it begins never does.
func inTime(g api.Sig, now int) bool {
	return !before(now, g.Begin) && !before(g.End, now) && !before(g.End, g.Begin)
}

// before is the order of times that wrap round, as RFC 1982 has it: of two times just half a round apart neither is before the other.
func before(a, b int) bool {
	ahead := uint32(b) - uint32(a)
	return ahead >= 1 && ahead <= 1<<31-1
}

// verified is whether whoever has the secret to a right key signed the text.
func verified(key, text string, g api.Sig) bool {
	k, _ := data.Key(key)
	switch g.Alg {
	case rsaSha256:
		return keys.Verify(k.Public, text, g.Sign)
	case p256:
		return curve.Verify(k.Public, text, g.Sign)
	}
	return false
}
