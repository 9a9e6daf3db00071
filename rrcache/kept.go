package rrcache

import (
	"iter"
	"slices"
	"strings"

	"guidepost/api"
	"guidepost/name"
	"guidepost/rrset"
)

// timeBits is how many bits a time in seconds has.
const timeBits = 32

// key is what a set is found by, the name in small letters.
type key struct {
	name string
	kind int
}

func keyOf(n string, kind int) key {
	return key{name.Lower(n), kind}
}

func rightSet(s api.Set) bool {
	return s.Class == api.IN && rrset.Right(s)
}

func isRank(n int) bool {
	return n >= api.RankGlue && n <= api.RankSigned
}

func isSecurity(n int) bool {
	return n >= api.Unchecked && n <= api.Bogus
}

func isTime(n int) bool {
	return n >= 0 && n>>timeBits == 0
}

// over tells whether a set may not be told any more.
func over(x *Entry, now int) bool {
	return now >= x.Until
}

// overAt goes over the keys of all that are over at a time; at what is no time nothing is.
func (c *Cache) overAt(now int) iter.Seq[key] {
	return func(yield func(key) bool) {
		if !isTime(now) {
			return
		}
		for k, x := range c.kept.All() {
			if over(x, now) && !yield(k) {
				return
			}
		}
	}
}

// versionOf is the version of a set that takes the place of an old one (nil, if there is none): that one's, if all that was proved of it by its signatures holds of the new one; else the next.
func (c *Cache) versionOf(s api.Set, old *Entry) int {
	if old != nil && slices.Equal(old.Set.Sigs, s.Sigs) && rrset.Same(old.Set, s) {
		return old.Version
	}
	c.versions++
	return c.versions
}

// toldAt is what is told of a set that is not over. A time before that at which it was put would let it live longer than it may.
func toldAt(x *Entry, now int) Entry {
	told := *x
	told.Set = copied(x.Set)
	told.Set.TTL = min(x.Until-now, api.MaxTTL)
	return told
}

// copied is a set that shares no memory with this one.
func copied(s api.Set) api.Set {
	s.Name, s.Data, s.Sigs = strings.Clone(s.Name), clones(s.Data), clones(s.Sigs)
	return s
}

func clones(list []string) []string {
	var own []string
	for _, s := range list {
		own = append(own, strings.Clone(s))
	}
	return own
}
