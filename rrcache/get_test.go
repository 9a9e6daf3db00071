package rrcache_test

import (
	"math"
	"strings"
	"testing"

	"guidepost/api"
)

// P16.2: what Get tells at which time, and what goes by it.
func TestGetTimes(t *testing.T) {
	const put = "put a. data=1,2 sigs=x ttl=10 rank=2 sec=1 at=100: true; "
	const told = "a. A class=1 data=1,2 sigs=x rank=2 sec=1 v=1 until=110 "
	scripts(t, 2,
		put+"get a. at=100: "+told+"ttl=10",
		put+"get a. at=101: "+told+"ttl=9",
		put+"get a. at=108: "+told+"ttl=2",
		put+"get a. at=109: "+told+"ttl=1; len: 1; get a. at=109: "+told+"ttl=1",
		// It is over, and goes: also for one who asks at a time before.
		put+"get a. at=110: -; len: 0; get a. at=109: -; mark a. v=1: false; sweep at=110: 0",
		put+"get a. at=111: -; len: 0; get a. at=100: -",
		put+"get a. at=4294967295: -; len: 0",
		// Of a time before the Put it is known, and longer.
		put+"get a. at=99: "+told+"ttl=11",
		put+"get a. at=0: "+told+"ttl=110; get a. at=109: "+told+"ttl=1",
		// At no time nothing is told, and nothing goes.
		put+"get a. at=-1: -; len: 1; get a. at=105: "+told+"ttl=5",
		put+"get a. at=4294967296: -; len: 1; get a. at=105: "+told,
		put+"get a. at=9223372036854775807: -; get a. at=-9223372036854775808: -; len: 1; get a. at=109: "+told,
		"put a. at=4294967295; get a. at=4294967296: -; get a. at=4294967400: -; len: 1; get a. at=4294967295: ttl=10",
		// What is there is told as it is now, what was there before is not.
		put+"put a. at=105 rank=3; get a. at=106: data=1 sigs= rank=3 sec=0 v=2 until=115 ttl=9; get a. at=110: ttl=5; get a. at=115: -",
		put+"put a. data=1,2 sigs=x ttl=3 rank=2 at=100; get a. at=102: ttl=1 v=1 until=103; get a. at=103: -",
		// Of others that are over none goes.
		put+"put b. ttl=1 at=100; get a. at=105: a.; get c. at=105: -; len: 2; get b. at=105: -; len: 1",
	)
}

// P16.2: no TTL is told that is greater than 604800.
func TestGetTTL(t *testing.T) {
	scripts(t, 1,
		"put a. ttl=2147483647 at=0: true; get a. at=0: ttl=604800 until=604800; get a. at=1: ttl=604799; get a. at=604799: ttl=1; get a. at=604800: -",
		"put a. ttl=604800 at=1000: true; get a. at=1000: ttl=604800; get a. at=999: ttl=604800 until=605800; get a. at=0: ttl=604800; get a. at=1001: ttl=604799",
		"put a. ttl=604801 at=1: true; get a. at=0: ttl=604800 until=604801; get a. at=1: ttl=604800; get a. at=604800: ttl=1; get a. at=604801: -",
		"put a. ttl=604799 at=1: true; get a. at=0: ttl=604800; get a. at=1: ttl=604799",
		"put a. ttl=5 at=4294967295: true; get a. at=0: ttl=604800 until=4294967300; get a. at=4294362500: ttl=604800; get a. at=4294362501: ttl=604799; get a. at=4294967295: ttl=5",
	)
}

// P16.2: a set is found by its name, in any letters, and its type.
func TestGetNames(t *testing.T) {
	scripts(t, 5,
		"put wWw.x.: true; get www.x.: wWw.x.; get WWW.X.: wWw.x.; get www.: -; get x.: -; get .: -; get a.www.x.: -; get ww.x.: -; get wwww.x.: -; len: 1",
		"put .: true; get .: . v=1; get a.: -",
		"put a.; put a. type=NS data=n. ttl=5; put a. type=AAAA data=0:0:0:0:0:0:0:1 rank=4; put b. data=2; get a.: A v=1 data=1; get a. type=NS: NS v=2 ttl=5; get A. type=AAAA: v=3 rank=4; get b.: v=4; get a. type=TXT: -; get b. type=NS: -; get a. type=ANY: -",
		"put a. type=TYPE0 data=\\#_0: true; get a. type=TYPE0: v=1; get a.: -",
		"put [.; get [.: [.; get {.: -",
	)
	c := made(t, 5)
	doAll(t, c, "put a.; put a. type=ANY data=\\#_0")
	for _, n := range append(wrongNames(), "\x01b\x00", "\x00") {
		for _, kind := range []int{api.TypeA, api.TypeANY} {
			if got := entryText(c.Get(n, kind, 5)); got != "-" {
				t.Errorf("%q, %d: %s", n, kind, got)
			}
			if c.Mark(n, kind, kind/255+1, api.Secure) {
				t.Errorf("%q, %d: marked", n, kind)
			}
		}
	}
	for _, kind := range []int{math.MinInt, -1, 0, api.TypeNS, api.TypeOPT, api.TypeRRSIG, 254, 256, 65535, 65536, 65536 + api.TypeA, 1<<32 + api.TypeA, math.MaxInt} {
		if got := entryText(c.Get("\x01a\x00", kind, 5)); got != "-" || c.Mark("\x01a\x00", kind, 1, api.Secure) {
			t.Errorf("%d: %s", kind, got)
		}
	}
	long := strings.Repeat("\x3f"+strings.Repeat("a", 63), 1<<14) + "\x00"
	if got := entryText(c.Get(long, api.TypeA, 5)); got != "-" {
		t.Error(got)
	}
	doAll(t, c, "len: 2; get a.: v=1 sec=0; get a. type=ANY: v=2 sec=0")
}

// P16.2: Mark, of what is there, over or not.
func TestMark(t *testing.T) {
	const put = "put a. data=1,2 sigs=x rank=2 sec=1 at=100: true; "
	const told = "a. A class=1 ttl=5 data=1,2 sigs=x rank=2 v=1 until=110 "
	for _, sec := range []string{"sec=0", "sec=1", "sec=2", "sec=3"} {
		scripts(t, 2,
			put+"mark a. v=1 "+sec+": true; get a. at=105: "+told+sec+"; get a. at=105: "+told+sec,
			put+"mark A. v=1 "+sec+": true; mark a. v=1 "+sec+": true; get a. at=105: "+told+sec,
			// Mark has no time: what is over is marked, too, and told by a Get of a time before.
			"put a. ttl=1 at=0; get b. at=4294967295: -; mark a. v=1 "+sec+": true; get a. at=0: "+sec+"; get a. at=1: -",
			put+"put b. at=200; mark a. v=1 "+sec+": true; get a. at=105: "+told+sec,
		)
	}
	for _, wrong := range []string{
		"v=0", "v=2", "v=-1", "v=9223372036854775807", "v=-9223372036854775808", "v=257", "v=4294967297",
		"sec=-1", "sec=4", "sec=9223372036854775807", "sec=-9223372036854775808", "v=2 sec=4", "type=NS",
	} {
		scripts(t, 2, put+"mark a. "+wrong+": false; len: 1; get a. at=105: "+told+"sec=1")
	}
	scripts(t, 3,
		"mark a. v=0: false; mark a. v=1: false; len: 0",
		put+"mark b. v=1: false; mark x.a. v=1: false; mark . v=1: false; get a. at=105: "+told+"sec=1",
		// What is over, by its time alone, is marked, and not what has gone.
		"put a. ttl=1; put b. at=50; mark a. v=1: true; put a. ttl=0 at=50: false; mark a. v=1 sec=3: true; get a.: sec=3; get a. at=1: -; mark a. v=1: false",
		"put a. ttl=1; sweep at=1: 1; mark a. v=1: false",
		// What took its place has another version, or what was put with it last.
		put+"put a. data=3 rank=3 sec=0; mark a. v=1: false; get a.: sec=0 v=2; mark a. v=2 sec=3: true; get a.: sec=3 v=2",
		put+"mark a. v=1 sec=2: true; put a. data=2,1 sigs=x sec=0 at=101; get a. at=101: v=1 sec=0; mark a. v=1 sec=3: true; get a. at=102: sec=3 until=111",
		// One of several.
		"put a.; put b.; put a. type=NS data=n.; mark b. v=2 sec=2: true; mark a. type=NS v=3 sec=3: true; get a.: sec=0; get b.: sec=2; get a. type=NS: sec=3; mark a. v=3: false; mark a. type=NS v=1: false",
		// It stays so, through what is refused.
		put+"mark a. v=1 sec=3; put a. rank=1 sec=2 at=101: false; put a. ttl=0 sec=2: false; mark a. v=1 sec=4: false; get a. at=105: sec=3",
		// A rank is none of its business.
		"put a. rank=1 sec=0; mark a. v=1 sec=2: true; put a. rank=2 sec=0 data=2: true; get a.: sec=0 data=2",
	)
}

// P16.2: Sweep and Len.
func TestSweep(t *testing.T) {
	const put = "put a. ttl=10: true; put b. ttl=20: true; put c. ttl=10 rank=4 sec=2: true; put a. type=NS data=n. ttl=30: true; len: 4; "
	scripts(t, 4,
		"sweep at=0: 0; sweep at=4294967295: 0; len: 0",
		put+"sweep at=0: 0; sweep at=9: 0; len: 4; get a. at=9: ttl=1",
		put+"sweep at=10: 2; len: 2; sweep at=10: 0; get a.: -; get c.: -; get b.: ttl=20 v=2; get a. type=NS: v=4",
		put+"sweep at=19: 2; len: 2; sweep at=20: 1; len: 1; sweep at=29: 0; sweep at=30: 1; len: 0; sweep at=30: 0",
		put+"sweep at=29: 3; len: 1; get a. type=NS at=29: ttl=1",
		put+"sweep at=30: 4; len: 0; get a. type=NS: -",
		put+"sweep at=4294967295: 4; len: 0",
		put+"sweep at=-1: 0; sweep at=4294967296: 0; sweep at=9223372036854775807: 0; sweep at=-9223372036854775808: 0; len: 4; get a. type=NS at=29: v=4",
		put+"get a. at=10: -; len: 3; sweep at=10: 1; len: 2",
		put+"mark c. v=3 sec=0; sweep at=10: 2; len: 2; mark c. v=3: false",
		// What is left stays in the order in which it was used, with its versions.
		put+"sweep at=10: 2; put d.; put e.; len: 4; get b.: b.; put f.; get a. type=NS: -; get b.: v=2; get d.: v=5; get e.: v=6; get f.: v=7",
		"put a. at=4294967290; put b. at=4294967200; sweep at=4294967295: 1; len: 1; get a. at=4294967295: ttl=5",
	)
	c := made(t, 2000)
	for i := range 2000 {
		p := spec{name: strings.Repeat("a", 1+i%50) + "." + strings.Repeat("b", 1+i/50) + ".", kind: "A", data: []string{"1"}, class: 1, ttl: 1 + i%100, rank: 3}
		if got := p.put(c); got != "true" {
			t.Fatal(got)
		}
	}
	for now := range 101 {
		want := 20
		if now == 0 {
			want = 0
		}
		if got := c.Sweep(now); got != want || c.Len() != 2000-20*now {
			t.Errorf("at %d: %d, Len %d", now, got, c.Len())
		}
	}
}
