package rrcache_test

import (
	"strconv"
	"testing"
)

// P16.1: of too many the one goes that was used longest ago.
func TestWhatGoes(t *testing.T) {
	scripts(t, 1,
		"put a.: true; put b.: true; len: 1; get a.: -; get b.: v=2",
		"put a.; put a.; len: 1; get a.: v=1",
		"put a.; put a. data=2; len: 1; put a. type=NS data=n.; len: 1; get a.: -; get a. type=NS: v=3",
		// The rank, the security and what is left of the time count for nothing.
		"put a. rank=4 sec=2 ttl=1000; put b. rank=1 ttl=1: true; get a.: -; get b.: b.",
		"put a. at=100; put b. at=0; get a. at=100: -; get b.: b.",
	)
	scripts(t, 3,
		"put a.; put b.; put c.; len: 3; put d.; len: 3; get a.: -; get b.: b.; get c.: c.; get d.: d.",
		"put a.; put b.; put c.; get a.; put d.; get b.: -; get a.: a.; put e.; get c.: -; get d.: d.",
		"put a.; put b.; put c.; put a.: true; put d.; get b.: -; get a.: a.",
		"put a.; put b.; put c.; put A. data=2: true; put d.; get b.: -; get a.: A.",
		"put a.; put b.; put c.; put a. rank=4: true; put d.; get b.: -; get a.: a.",
		"put a.; put b.; put c.; get A. at=9: a.; put d.; get b.: -; get a.: a.",
		// What is over goes no sooner than others, if nobody has asked for it.
		"put a. ttl=100; put b. ttl=1; put c. ttl=100 at=50; put d. at=50; get a. at=50: -; len: 3; sweep at=50: 1; len: 2",
		"put a. ttl=100; put b. ttl=1; put c. ttl=100; get b. at=50: -; put d. at=50; len: 3; get a. at=50: a.",
		"put a. ttl=100; put b. ttl=1; put c. ttl=100; sweep at=50: 1; put d. at=50; len: 3; get a. at=50: a.",
		// What is put in the place of what is over is used, and lets no other go.
		"put a. ttl=1; put b.; put c.; put a. at=5: true; len: 3; put d. at=5; get b. at=5: -; get a. at=5: a.",
	)
}

// P16.1: nothing else than a Put that is taken, and a Get that finds, uses a set.
func TestNotUsed(t *testing.T) {
	for _, what := range []string{
		"len: 3",
		"put a. ttl=0: false", "put a. rank=2: false", "put a. data=2 rank=1 at=1: false",
		"put a. rank=0: ErrArg", "put a. rank=5: ErrArg", "put a. sec=-1: ErrArg", "put a. sec=4: ErrArg", "put a. at=-1: ErrArg", "put a. at=4294967296: ErrArg", "put a. class=3: ErrArg",
		"get a. at=-1: -", "get a. at=4294967296: -", "get a. type=NS: -", "get x.a.: -", "get .: -",
		"mark a. v=1 sec=2: true", "mark a. v=1 sec=0: true", "mark A. v=1: true", "mark a. v=2: false", "mark a. v=1 sec=4: false", "mark a. type=NS v=1: false",
		"sweep at=0: 0", "sweep at=9: 0", "sweep at=-1: 0", "sweep at=4294967296: 0",
	} {
		scripts(t, 3,
			"put a. ttl=20; put b. ttl=20; put c. ttl=20; "+what+"; put d.; len: 3; get a.: -; get b.: v=2; get c.: v=3; get d.: v=4",
			"put a. ttl=20; put b. ttl=20; put c. ttl=20; get a.; "+what+"; put d.; len: 3; get b.: -; get a.: v=1; put e.; get c.: -; get a.: v=1",
		)
	}
}

// P16.1: there are never more than most, and the last ones that were put are there.
func TestMost(t *testing.T) {
	for _, most := range []int{1, 2, 3, 10, 97} {
		c := made(t, most)
		for i := range 200 {
			doAll(t, c, "put n"+strconv.Itoa(i)+".: true; len: "+strconv.Itoa(min(i+1, most)))
		}
		for i := range 200 {
			want := ": -"
			if i >= 200-most {
				want = ": v=" + strconv.Itoa(i+1)
			}
			doAll(t, c, "get n"+strconv.Itoa(i)+"."+want)
		}
	}
}
