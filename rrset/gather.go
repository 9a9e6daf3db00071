package rrset

import (
	"strings"

	"guidepost/api"
	"guidepost/data"
	"guidepost/name"
)

// setKey is what the records of one set have in common, the name in small letters.
type setKey struct {
	name        string
	kind, class int
}

// item is something that a set has once. (A signature's own bytes tell of which type it is, so the key of its record will do.)
type item struct {
	of    setKey
	bytes string
}

// gathering is sets in the making: they, where each of them is, and what they have.
type gathering struct {
	sets   []api.Set
	places map[setKey]int
	known  map[item]struct{}
}

func newGathering() *gathering {
	return &gathering{places: map[setKey]int{}, known: map[item]struct{}{}}
}

// add brings a right record to its set. Where the set is full, whatever comes is lost, with its TTL; until then data that come again add theirs.
func (g *gathering) add(x api.Record) {
	k := keyOf(x, x.Type)
	s := g.setFor(k, x)
	if len(s.Data) == api.MaxRecords {
		return
	}
	s.TTL = min(s.TTL, ttlOf(x))
	if g.isNew(item{k, data.Lower(x.Type, x.Data)}) {
		s.Data = append(s.Data, strings.Clone(x.Data))
	}
}

// sign brings a right record of RRSIG to the set that it signs, if there is one.
func (g *gathering) sign(x api.Record) {
	sig, _ := data.Sig(x.Data) // the record is right
	place, found := g.places[keyOf(x, sig.Covered)]
	if !found {
		return
	}
	s := &g.sets[place]
	if len(s.Sigs) < api.MaxRecords && g.isNew(item{keyOf(x, x.Type), x.Data}) {
		s.Sigs = append(s.Sigs, strings.Clone(x.Data))
	}
}

// setFor is the set of a key; if it is not there, a new one, with the letters of its first record, and a TTL that any record's makes less.
func (g *gathering) setFor(k setKey, first api.Record) *api.Set {
	place, found := g.places[k]
	if !found {
		place = len(g.sets)
		g.places[k] = place
		g.sets = append(g.sets, api.Set{Name: strings.Clone(first.Name), Type: k.kind, Class: k.class, TTL: 1<<ttlBits - 1})
	}
	return &g.sets[place]
}

// isNew is whether something has not come yet; from now on it has.
func (g *gathering) isNew(x item) bool {
	_, found := g.known[x]
	g.known[x] = struct{}{}
	return !found
}

func keyOf(x api.Record, kind int) setKey {
	return setKey{name.Lower(x.Name), kind, x.Class}
}

// ttlOf is a record's TTL as it counts: with more bits than a set's may have it would be one below 0, which is told as 0.
func ttlOf(x api.Record) int {
	if !fits(x.TTL, ttlBits) {
		return 0
	}
	return x.TTL
}
