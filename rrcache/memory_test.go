package rrcache_test

import (
	"reflect"
	"slices"
	"testing"

	"guidepost/api"
)

// sameSet is whether two sets have the same in the same order, but for the TTL.
func sameSet(a, b api.Set) bool {
	return a.Name == b.Name && a.Type == b.Type && a.Class == b.Class && slices.Equal(a.Data, b.Data) && slices.Equal(a.Sigs, b.Sigs)
}

// spoil writes into all of a list, its spare room too.
func spoil(list []string) {
	list = list[:cap(list)]
	for i := range list {
		list[i] = "spoilt"
	}
}

// roomy is a list with room behind it, which is filled.
func roomy(list []string) []string {
	return append(slices.Clone(list), "behind", "it")[:len(list)]
}

// roomySet is one set, made anew each time.
func roomySet() api.Set {
	s := lineOf("put a. type=NS data=N.,m. sigs=y,x").spec().set()
	s.Data, s.Sigs = roomy(s.Data), roomy(s.Sigs)
	return s
}

// DOC.md's P3: what is handed in is not written into, nor what stands behind it.
func TestHandedIn(t *testing.T) {
	c := made(t, 2)
	for _, now := range []int{0, 1, 100, -1} {
		s, same := roomySet(), roomySet()
		c.Put(s, 3, 0, now)
		c.Get(s.Name, s.Type, max(now, 0))
		if !reflect.DeepEqual(s, same) || !slices.Equal(s.Data[:4], same.Data[:4]) || !slices.Equal(s.Sigs[:4], same.Sigs[:4]) {
			t.Error("written into", s)
		}
	}
	doAll(t, c, "get a. type=NS at=100: a. data=N.,m. sigs=y,x v=1 until=110")
}

// DOC.md's P3: what is done to a set behind Put changes nothing of what is kept, nor which version the next one has.
func TestHandedInChanges(t *testing.T) {
	c := made(t, 2)
	s := roomySet()
	c.Put(s, 3, 0, 0)
	spoil(s.Data)
	spoil(s.Sigs)
	s.Name, s.TTL = "", 0
	doAll(t, c, "get a. type=NS: a. data=N.,m. sigs=y,x v=1 ttl=10; put a. type=NS data=n.,m. sigs=y,x at=1; get a. type=NS at=1: v=1 data=n.,m.")
	s = roomySet()
	c.Put(s, 3, 0, 0)
	s.Sigs[0], s.Sigs[1] = s.Sigs[1], s.Sigs[0]
	doAll(t, c, "get a. type=NS: sigs=y,x v=1; put a. type=NS data=N.,m. sigs=x,y; get a. type=NS: v=2")
}

// DOC.md's P3: what is done to what Get told changes nothing of what is kept, nor of what is told otherwise.
func TestToldIsNew(t *testing.T) {
	c := made(t, 2)
	c.Put(roomySet(), 3, 1, 0)
	first, _ := c.Get("\x01a\x00", api.TypeNS, 0)
	second, _ := c.Get("\x01a\x00", api.TypeNS, 0)
	told := entryText(second, true)
	data, sigs := slices.Clone(first.Set.Data), slices.Clone(first.Set.Sigs)
	spoil(first.Set.Data)
	if !slices.Equal(first.Set.Sigs, sigs) {
		t.Error("Data and Sigs share", first)
	}
	copy(first.Set.Data, data)
	spoil(first.Set.Sigs)
	if !slices.Equal(first.Set.Data, data) {
		t.Error("Sigs and Data share", first)
	}
	first.Set.Name, first.Rank, first.Security, first.Version, first.Until = "", 1, 3, 9, 1
	if got := entryText(second, true); got != told {
		t.Errorf("%s, was %s", got, told)
	}
	if got := entryText(c.Get("\x01a\x00", api.TypeNS, 0)); got != told {
		t.Errorf("%s, was %s", got, told)
	}
	doAll(t, c, "put a. type=NS data=m.,n. sigs=y,x; get a. type=NS: v=1; put a. type=NS data=m.,n. sigs=x,y; get a. type=NS: v=2")
}

// DOC.md's P3: a set that was told stays as it is, whatever is done to the cache.
func TestToldStays(t *testing.T) {
	c := made(t, 1)
	doAll(t, c, "put a. data=1,2 sigs=x,y")
	x, found := c.Get("\x01a\x00", api.TypeA, 3)
	doAll(t, c, "mark a. v=1 sec=3; put A. data=2,3 sigs=z; mark a. v=2 sec=2; put b.; sweep at=100")
	if got := entryText(x, found); got != "a. A class=1 ttl=7 data=1,2 sigs=x,y rank=3 sec=0 v=1 until=10" {
		t.Error(got)
	}
}

// DOC.md's P4: caches hang on nothing of each other.
func TestApart(t *testing.T) {
	a, b := made(t, 1), made(t, 2)
	doAll(t, a, "put a.; put b.; put c.; get c.: v=3")
	doAll(t, b, "len: 0; get c.: -; put c.: true; get c.: v=1; put a. data=2; len: 2")
	doAll(t, a, "len: 1; sweep at=10: 1; get c.: -")
	doAll(t, b, "get c.: v=1; get a.: data=2 v=2")
}
