package config

import (
	"math"

	"guidepost/acl"
	"guidepost/api"
	"guidepost/local"
	"guidepost/name"
)

const (
	mostServers = 20
	mostKept    = 10000
	greatestTag = math.MaxUint16
)

// Algorithms of keys, and kinds of their digests, that can be checked; and the digests' bytes.
const (
	algRSA     = 8
	algCurve   = 13
	kindSHA1   = 1
	kindSHA256 = 2
	sizeSHA1   = 20
	sizeSHA256 = 32
)

// part is a part of a configuration, and what is asked of it.
type part struct {
	name  string
	right func(c api.Config) bool
}

// parts stand in the order in which they are asked: the first that is wrong is told.
func parts() []part {
	return []part{
		{"roots", rightRoots},
		{"rules", rightRules},
		{"locals", rightLocals},
		{"upstreams", rightUpstreams},
		{"anchors", rightAnchors},
		{"numbers", rightNumbers},
	}
}

func rightRoots(c api.Config) bool {
	return rightServers(c.Roots)
}

func rightRules(c api.Config) bool {
	_, e := acl.New(c.Rules)
	return e == api.OK
}

func rightLocals(c api.Config) bool {
	_, e := local.New(c.Locals)
	return e == api.OK
}

func rightUpstreams(c api.Config) bool {
	count := map[string]int{}
	for _, u := range c.Upstreams {
		low := name.Lower(u.Name)
		count[low]++
		if !name.Right(u.Name) || !rightServers(u.Servers) || count[low] > 1 {
			return false
		}
	}
	return true
}

func rightAnchors(c api.Config) bool {
	for _, a := range c.Anchors {
		if !name.Right(a.Name) || !rightDs(a.Ds) {
			return false
		}
	}
	return true
}

func rightNumbers(c api.Config) bool {
	for _, n := range []int{c.Sets, c.Messages, c.Servers, c.Tasks} {
		if n < 1 || n > mostKept {
			return false
		}
	}
	return true
}

// rightServers tells whether servers of one zone may be these.
func rightServers(list []api.Addr) bool {
	if len(list) < 1 || len(list) > mostServers {
		return false
	}
	for _, a := range list {
		if !acl.Right(a) {
			return false
		}
	}
	return true
}

func rightDs(d api.Ds) bool {
	if d.Tag < 0 || d.Tag > greatestTag || d.Alg != algRSA && d.Alg != algCurve {
		return false
	}
	switch d.Kind {
	case kindSHA1:
		return len(d.Digest) == sizeSHA1
	case kindSHA256:
		return len(d.Digest) == sizeSHA256
	}
	return false
}
