package msgcache_test

import "testing"

// P17.2: what Get tells at which time, and what goes by it.
func TestGetTimes(t *testing.T) {
	const put = "set a./A/100/1+2/x at=50; set s./NS/60/n. at=50; put q. rcode=3 sec=2 answer=a. authority=s./NS at=60: true; "
	const told = "rcode=3 sec=2 until=110 "
	scripts(t, 2, 5,
		put+"get q. at=60: "+told+"answer=a./A/50/1+2/x authority=s./NS/50/n.",
		put+"get q. at=61: "+told+"answer=a./A/49/1+2/x authority=s./NS/49/n.",
		put+"get q. at=109: "+told+"answer=a./A/1/1+2/x authority=s./NS/1/n.; len: 1; get q. at=109: "+told,
		// It is over, and goes, also for one who asks at a time before; its sets are not asked for.
		put+"get q. at=110: -; len: 0; get q. at=109: -; get q. at=60: -; sets: 2",
		put+"get q. at=111: -; len: 0",
		put+"get q. at=4294967295: -; len: 0; sets: 2",
		// Of a time before the Put it is known, and longer.
		put+"get q. at=59: "+told+"answer=a./A/51/1+2/x authority=s./NS/51/n.",
		put+"get q. at=0: "+told+"answer=a./A/110/1+2/x authority=s./NS/110/n.; get q. at=109: "+told,
		// At no time nothing is told, and nothing goes.
		put+"get q. at=-1: -; len: 1; get q. at=100: "+told,
		put+"get q. at=4294967296: -; len: 1; sets: 2; get q. at=100: "+told,
		put+"get q. at=9223372036854775807: -; get q. at=-9223372036854775808: -; len: 1; get q. at=100: "+told,
		"put q. answer= at=4294967295; get q. at=4294967296: -; get q. at=4294967300: -; len: 1; get q. at=4294967295: until=4294967300",
		// What is there is told as it was put last, what was there before is not.
		put+"put Q. type=NS answer=s./NS at=61: true; put Q. answer=s./NS at=62: true; len: 2; get q. at=63: rcode=0 sec=0 until=67 answer=s./NS/4/n. authority=; get q. at=67: -; len: 1",
		// Of others that are over none goes.
		put+"put b. answer= at=60; put q. at=90; get q. at=109: -; get c. at=109: -; len: 1; get b. at=109: -; len: 0",
	)
}

// P17.2: an answer is found by its question: the name, in any letters, and the type.
func TestGetNames(t *testing.T) {
	scripts(t, 5, 5,
		"set wWw.x.; put wwW.X. answer=www.x.: true; get www.x.: answer=wWw.x./A/10/1; get WWW.X.: answer=wWw.x./A/10/1; get www.: -; get x.: -; get .: -; get a.www.x.: -; get ww.x.: -; get wwww.x.: -; len: 1",
		"put Www.x. answer= sec=1; put wWW.X. answer= sec=2: true; len: 1; get www.x.: sec=2; put WWW.x. answer=z.: false; len: 0",
		"put . answer=: true; get .: until=5; get a.: -; get . type=NS: -",
		"put a. answer= sec=1; put a. type=NS answer= sec=2; put a. type=ANY answer= sec=3; put b. answer= rcode=3; len: 4; get a.: sec=1 rcode=0; get a. type=NS: sec=2; get a. type=ANY: sec=3; get a. type=TXT: -; get b.: rcode=3 sec=0; get b. type=NS: -",
		"put a. answer= type=0: true; get a. type=0: until=5; get a.: -; get a. type=65536: -",
		"put a. answer= type=65535: true; get a. type=65535: until=5; get a. type=-1: -; get a. type=131071: -; get a. type=4295032831: -",
		"put a. answer=; get a. type=-1: -; get a. type=65537: -; get a. type=4294967297: -; get a. type=9223372036854775807: -; get a. type=-9223372036854775808: -; len: 1; get a.: until=5",
		// Answers are kept by name and type alone, so that Get asks for no class.
		"put a. answer=; get a. class=3: until=5; get a. class=0: until=5; len: 1",
		"put [. answer= sec=1; put {. answer= sec=2; len: 2; get [.: sec=1; get {.: sec=2",
		"put @. answer=; put `. answer=; len: 2",
		// Whatever the question was, its sets are those that were named.
		"set a.; set b./A/20/2; put a. answer=b.: true; get a.: answer=b./A/20/2 until=20; get b.: -",
	)
}

// P17.2: an answer is told only while its sets are what they were.
func TestGetSets(t *testing.T) {
	const told = "answer=a./A/9/1,b./A/9/2 authority=s./NS/9/n."
	const put = "set a./A/10/1; set b./A/10/2; set s./NS/10/n.; put q. answer=a.,b. authority=s./NS: true; get q. at=1: " + told + "; "
	for _, lost := range []string{
		// Other data, or signatures, in either section; over, by a Put of a shorter TTL; gone.
		"set a./A/10/3 at=1", "set b./A/10/3 at=1", "set s./NS/10/m. at=1", "set a./A/10/1+2 at=1", "set a./A/10/1/x at=1", "set s./NS/10/n./x at=1", "set a./A/10/1 rank=4 at=1; set a./A/10/2 rank=4 at=1",
		// What comes again behind another is another, though it is the same.
		"set a./A/10/3; set a./A/10/1: true", "set s./NS/10/m.; set s./NS/10/n.: true",
		"set a./A/10 at=0; look a. at=10: -; set a./A/10 at=1", "look s./NS at=10: -; set s./NS/10/n.",
		"look a. at=10: -", "look b. at=10: -", "look s./NS at=10: -", "sweep at=10: 3", "sweep at=10: 3; set a./A/10/1; set b./A/10/2; set s./NS/10/n.",
		"set c.; set d.; set e.", "set c.; set d.; set e.; set a./A/10/1; set b./A/10/2; set s./NS/10/n.",
		"set b./A/1/2 at=0", "set s./NS/1/n. at=0",
	} {
		scripts(t, 3, 3,
			put+lost+"; len: 1; get q. at=1: -; len: 0; get q. at=1: -",
			put+"put r. answer=: true; "+lost+"; get q. at=1: -; len: 1; get r. at=1: until=5",
			// It has gone, also where the sets come back.
			put+lost+"; get q. at=1: -; set a./A/10/1 at=1; set b./A/10/2 at=1; set s./NS/10/n. at=1; get q. at=1: -; put q. answer=a. at=1: true; get q. at=1: until=11",
		)
	}
	for _, same := range []string{
		"set a./A/10/1 at=1", "set b./A/10/2 at=1", "set s./NS/10/n. at=1", "set a./A/10/1 rank=4 at=1", "set a./A/20/1 at=1; set a./A/10/1 at=1", "set a./A/10/1 rank=1 at=1: false", "set a./A/0/7: false", "set a./A/10/7 rank=2 at=1: false",
		"look a. at=1", "set s./NS/600/n. at=1", "set a./A/600/1 at=1; set b./A/600/2 at=1; set s./NS/600/n. at=1", "sweep at=9: 0",
	} {
		scripts(t, 3, 3, put+same+"; get q. at=1: until=10 "+told+"; get q. at=9: until=10; get q. at=10: -; len: 0")
	}
	scripts(t, 3, 3,
		// In the same version, it is told as it is now: letters, the order of its data, and its TTL, if that is the lesser one.
		"set a./A/100/1+2/x; put q. answer=a.: true; set A./A/50/2+1/x at=10: true; get q. at=10: until=100 answer=A./A/50/2+1/x; get q. at=59: answer=A./A/1/2+1/x; get q. at=60: -; len: 0",
		"set a./A/50; put q. answer=a.: true; set a./A/100 at=10; get q. at=10: until=50 answer=a./A/40/1; get q. at=49: answer=a./A/1/1; get q. at=50: -; look a. at=50: a./A/60/1",
		"set a./NS/50/n.; put q. type=NS answer=a./NS: true; set a./NS/50/N. at=1; get q. type=NS at=1: answer=a./NS/49/N.",
		// What was over meanwhile, and comes again in the same version, is what it was.
		"set a./A/100; put q. answer=a.: true; set a./A/5 at=1; set a./A/50 at=20; get q. at=20: until=100 answer=a./A/50/1",
		"set a./A/100; put q. answer=a.: true; set a./A/5 at=1; get q. at=6: -; len: 0; sets: 0; set a./A/50 at=20; get q. at=20: -",
		// Another set of that name, or its other types, are none of its business.
		"set a.; put q. answer=a.: true; set a./NS/10/n. at=1; set b.a. at=1; get q. at=2: answer=a./A/8/1",
		// Without sets it hangs on none.
		"set a.; put q. answer=: true; set a./A/10/3; sweep at=4294967295: 1; get q.: until=5 answer= authority=",
		// A set that comes twice is asked for twice.
		"set a.; put q. answer=a.,a. authority=a.: true; get q. at=4: answer=a./A/6/1,a./A/6/1 authority=a./A/6/1; set a./A/10/2; get q.: -",
	)
}

// P17.2: the TTLs that are told are those of the sets, but no greater than how long the answer is not over.
func TestGetTTL(t *testing.T) {
	scripts(t, 3, 5,
		"set a./A/10; set b./A/20; set s./NS/30/n.; put q. answer=a.,b. authority=s./NS; get q. at=3: until=10 answer=a./A/7/1,b./A/7/1 authority=s./NS/7/n.",
		"set a./A/10; put q. answer=a. until=7: true; get q. at=2: until=7 answer=a./A/5/1",
		"set s./SOA/100/7; set a./NS/100/n.; put q. answer= authority=a./NS,s./SOA/1/7: true; get q. at=2: until=7 authority=a./NS/5/n.,s./SOA/5/7",
		"set a./A/10; set b./A/20; put q. answer=a.,b.; set b./A/3 at=1; get q. at=2: until=10 answer=a./A/8/1,b./A/2/1",
		"set a./A/10; set b./A/20; put q. answer=a. authority=b.; set b./A/3 at=1; get q. at=2: until=10 answer=a./A/8/1 authority=b./A/2/1; get q. at=4: -",
		"set a./A/604800 at=1000; put q. answer=a. at=1000; get q. at=0: until=605800 answer=a./A/604800/1; get q. at=1001: answer=a./A/604799/1",
		"set a./A/604800 at=1000; put q. answer=a. at=1000 until=604799; get q. at=0: until=604799 answer=a./A/604799/1",
	)
}

// P17.2: Get asks for sets one by one, those of Answer first, up to the first one that is not what it was.
func TestGetAsks(t *testing.T) {
	const first = "set a.; set b.; set c.; put q. answer=b. authority=a.; set a.; set b.; set c.; "
	scripts(t, 5, 3,
		first+"get q.: answer=b./A/10/1; set d.; there c. v=3: false; set e.; there b. v=2: false; there a. v=1: true",
		// It is over, or there is none, or this is no time: nobody is asked for.
		first+"get q. at=10: -; sets: 3; set d.; there a. v=1: false",
		first+"get r.: -; get q. at=-1: -; get q. type=NS: -; set d.; there a. v=1: false",
		// The first one is another: it is used, and those behind it are not.
		first+"set b./A/10/2; set a.; set c.; get q.: -; set d.; there b. v=4: true; there a. v=1: false",
		first+"set a./A/10/2; set b.; set c.; get q.: -; set d.; there a. v=4: true; there b. v=2: true; there c. v=3: false",
		// It is over: it goes, and those behind it don't.
		first+"set b./A/1; set a./A/1; get q. at=1: -; sets: 2; there a. v=1: true; there b. v=2: false",
		first+"set a./A/1; get q. at=1: -; sets: 2; there a. v=1: false",
	)
}
