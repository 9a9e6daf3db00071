package rrcache_test

import "testing"

// P16.1: which version a set has.
func TestVersions(t *testing.T) {
	scripts(t, 3,
		// They are the numbers of the cache, whatever the name.
		"put a.; put b.; put a. type=TXT data=\"a\"; get a.: v=1; get b.: v=2; get a. type=TXT: v=3",
		// The same again, over or not, longer or shorter, of another rank and security.
		"put a.; put a. at=1; get a. at=1: v=1 until=11; put b.; get b.: v=2",
		"put a. sigs=x; put a. sigs=x; get a.: v=1",
		"put a. sigs=x,y; put a. sigs=x,y ttl=99 rank=4 sec=2; get a.: v=1 until=99 rank=4 sec=2",
		"put a.; put a. at=9; get a. at=9: v=1 until=19",
		"put a.; put a. at=10; get a. at=10: v=1 until=20",
		"put a.; put a. at=4294967295; get a. at=4294967295: v=1",
		"put a. rank=4; put a. rank=1 at=10: true; get a. at=10: v=1 rank=1",
		"put a. sec=3; put a. sec=0: true; get a.: v=1 sec=0",
		// In other letters, and in another order of the data.
		"put a.; put A.; get a.: v=1 A.",
		"put a. data=1,2,3; put a. data=3,1,2; get a.: v=1 data=3,1,2",
		"put a. type=NS data=n.,m.; put a. type=NS data=M.,N.; get a. type=NS: v=1 data=M.,N.",
		// Other data.
		"put a.; put a. data=2; get a.: v=2",
		"put a. data=1,2; put a. data=1; get a.: v=2",
		"put a. data=1; put a. data=1,2; get a.: v=2",
		"put a. data=1,2; put a. data=1,3; get a.: v=2",
		"put a. type=TXT data=\"a\"; put a. type=TXT data=\"A\"; get a. type=TXT: v=2",
		// Other signatures, or in another order, though the data are the same.
		"put a. sigs=x; put a. sigs=y; get a.: v=2 sigs=y",
		"put a. sigs=x; put a. sigs=X; get a.: v=2 sigs=X",
		"put a.; put a. sigs=x; get a.: v=2",
		"put a. sigs=x; put a.; get a.: v=2 sigs=",
		"put a. sigs=x; put a. sigs=x,y; get a.: v=2",
		"put a. sigs=x,y; put a. sigs=x; get a.: v=2",
		"put a. sigs=x,y; put a. sigs=y,x; get a.: v=2 sigs=y,x",
		"put a. sigs=x,x; put a. sigs=x; get a.: v=2",
		"put a. data=1,2 sigs=x,y; put a. data=2,1 sigs=x,y; get a.: v=1; put a. data=2,1 sigs=y,x; get a.: v=2",
		// What comes again behind another, or behind what took it away, is new.
		"put a.; put a. data=2; put a.; get a.: v=3",
		"put a.; put a. data=2; put a. data=2; get a.: v=2; put a.; put a.; get a.: v=3",
		"put a.; get a. at=10: -; put a. at=10; get a. at=10: v=2",
		"put a.; sweep at=10: 1; put a.; get a.: v=2",
		"put a.; put b.; put c.; put d.; put a.; get a.: v=5; get b.: -; get c.: v=3",
		// The same of another name or type is another.
		"put a.; put b.; get b.: v=2; put a. type=NS data=n.; put a. type=CNAME data=n.; get a. type=NS: v=3; get a. type=CNAME: v=4",
		// What stays, marked or not, has its version still.
		"put a.; mark a. v=1; put a. sec=1; get a.: v=1 sec=1; put b.; get a.: v=1; sweep at=5: 0; put a.; get a.: v=1",
	)
}

// P16.1: what is refused has no version, and takes none from others.
func TestVersionsRefused(t *testing.T) {
	for _, refused := range []string{
		"put a. ttl=0: false", "put a. data=2 ttl=0: false", "put a. data=2 rank=2: false", "put a. sigs=x rank=1: false",
		"put a. data=2 rank=0: ErrArg", "put a. data=2 sec=4: ErrArg", "put a. data=2 at=-1: ErrArg", "put a. data=2 class=3: ErrArg",
		"put b. ttl=0: false", "put b. rank=5: ErrArg", "put b. class=0: ErrArg",
		"get a. at=-1: -", "get a. type=NS: -", "get b.: -", "mark a. v=2: false", "mark b. v=1: false", "sweep at=1: 0", "len: 1",
	} {
		scripts(t, 3,
			"put a. ttl=20; "+refused+"; get a.: v=1 data=1 sigs= rank=3 sec=0 until=20; put a. ttl=20; get a.: v=1; put a. data=2 ttl=20; get a.: v=2",
			"put a. ttl=20; "+refused+"; "+refused+"; put c.; get c.: v=2",
		)
	}
}
