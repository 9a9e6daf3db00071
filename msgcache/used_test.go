package msgcache_test

import (
	"strconv"
	"testing"
)

// P17.1, P17.2: of too many the one goes that was used longest ago.
func TestWhatGoes(t *testing.T) {
	scripts(t, 1, 5,
		"put a. answer=: true; put b. answer=: true; len: 1; get a.: -; get b.: until=5",
		"put a. answer=; put A. answer= sec=1; len: 1; get a.: sec=1",
		"put a. answer= sec=1; put a. type=NS answer= sec=2; len: 1; get a.: -; get a. type=NS: sec=2",
		// The security and what is left of the time count for nothing.
		"set x./A/1000; put a. answer=x. sec=2; put b. answer= at=4: true; get a. at=4: -; get b. at=4: until=9",
		"put a. answer= at=100; put b. answer= at=0; get a. at=100: -; get b. at=0: until=5",
		// What can't be kept lets no other go.
		"put a. answer=; put b. answer=x.: false; get a.: until=5", "put a. answer=; put b. answer= until=-1: false; get a.: until=5", "put a. answer=; put b. rcode=2: ErrArg; get a.: until=5",
	)
	const three = "set x.; put a. answer=x.; put b. answer=x.; put c. answer=x.; len: 3; "
	scripts(t, 3, 5,
		three+"put d. answer=x.; len: 3; get a.: -; get b.: until=10; get c.: until=10; get d.: until=10",
		three+"get a.; put d. answer=x.; get b.: -; get a.: until=10; put e. answer=x.; get c.: -; get d.: until=10",
		three+"get A. at=9: answer=x./A/1/1; put d. answer=x.; get b.: -; get a.: until=10",
		three+"put a. answer=x.: true; put d. answer=x.; get b.: -; get a.: until=10",
		three+"put A. answer= rcode=3: true; len: 3; put d. answer=x.; get b.: -; get a.: until=5",
		// What went is not there, and leaves its room.
		three+"put b. answer=y.: false; len: 2; put d. answer=x.; len: 3; get a.: until=10; get c.: until=10; get d.: until=10",
		three+"get b. at=10: -; len: 2; put d. answer=x.; get a.: until=10",
		three+"set x./A/10/2; get b.: -; len: 2; put d. answer=x.; len: 3; put b. answer=x.; len: 3; get a.: -; get c.: -; len: 2",
		// What is over goes no sooner than others, if nobody has asked for it.
		"set x./A/100; put a. answer=x.; put b. answer=; put c. answer=x.; put d. answer=x. at=50; len: 3; get a. at=50: -; get b. at=50: -; len: 2",
	)
}

// P17.2: nothing else than a Put that is taken, and a Get that finds, uses an answer.
func TestNotUsed(t *testing.T) {
	for _, what := range []string{
		"len: 3", "sets: 1", "set x.: true", "look x.: x./A/10/1", "sweep at=9: 0",
		"put a. answer=x. rcode=2: ErrArg", "put a. answer=x. sec=-1: ErrArg", "put a. answer=x. sec=4: ErrArg", "put a. answer=x. at=-1: ErrArg", "put a. answer=x. at=4294967296: ErrArg", "put a. answer=x. class=3: ErrArg", "put a. answer=x. type=65537: ErrArg",
		"get a. at=-1: -", "get a. at=4294967296: -", "get a. type=NS: -", "get x.a.: -", "get .: -",
		"put x.a. answer=y.: false", "put a. type=NS answer=y.: false", "put d. answer=x. until=-1: false",
	} {
		scripts(t, 3, 5,
			"set x.; put a. answer=x.; put b. answer=x.; put c. answer=x.; "+what+"; put d. answer=x.; len: 3; get a.: -; get b.: until=10; get c.: until=10; get d.: until=10",
			"set x.; put a. answer=x.; put b. answer=x.; put c. answer=x.; get a.; "+what+"; put d. answer=x.; len: 3; get b.: -; get a.: until=10; put e. answer=x.; get c.: -; get a.: until=10",
		)
	}
}

// P17.1, P17.2: there are never more than most, and the last ones that were put are there; Len tells how many, over or not.
func TestMost(t *testing.T) {
	for _, most := range []int{1, 2, 3, 10, 97} {
		b := made(t, most, 1)
		b.doAll(t, "set x./A/1000")
		for i := range 200 {
			b.doAll(t, "put n"+strconv.Itoa(i)+". answer=x. until="+strconv.Itoa(i+1)+": true; len: "+strconv.Itoa(min(i+1, most)))
		}
		for i := range 200 {
			want := ": -"
			if i >= 200-most {
				want = ": until=" + strconv.Itoa(i+1)
			}
			b.doAll(t, "get n"+strconv.Itoa(i)+"."+want)
		}
		b.doAll(t, "len: "+strconv.Itoa(most)+"; get n199. at=300: -; len: "+strconv.Itoa(most-1))
	}
}
