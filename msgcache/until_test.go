package msgcache_test

import (
	"strconv"
	"testing"
)

// kept tries how long an answer to q. is kept: sets that are there from 100 on, what is put then, and for how many seconds it must be told.
func kept(t *testing.T, sets, put string, seconds int) {
	t.Helper()
	b := made(t, 2, 10)
	q := "q. type=" + lineOf("put "+put).word("type", "A")
	b.doAll(t, "put "+q+" answer= at=97: true")
	for _, s := range fields(sets, ' ') {
		b.doAll(t, "set "+s+" at=100: true")
	}
	end := 100 + seconds
	if seconds <= 0 {
		b.doAll(t, "put "+q+" "+put+" at=100: false; len: 0; get "+q+" at=100: -; get "+q+" at=97: -")
		return
	}
	until := ": until=" + strconv.Itoa(end)
	b.doAll(t, "put "+q+" "+put+" at=100: true; len: 1; get "+q+" at=100"+until+"; get "+q+" at="+strconv.Itoa(end-1)+until+"; len: 1; get "+q+" at="+strconv.Itoa(end)+": -; len: 0; get "+q+" at=100: -")
}

// P17.1: an answer is kept no longer than each of its sets, and no longer than 604800.
func TestLeastTTL(t *testing.T) {
	kept(t, "a./A/1", "answer=a.", 1)
	kept(t, "a./A/10", "answer=a./A/5", 10)
	kept(t, "a./A/10", "answer=a./A/500", 10)
	kept(t, "a./A/10 b./A/20 c./A/30", "answer=a.,b.,c.", 10)
	kept(t, "a./A/20 b./A/10 c./A/30", "answer=a.,b.,c.", 10)
	kept(t, "a./A/20 b./A/30 c./A/10", "answer=a.,b.,c.", 10)
	kept(t, "a./A/20 b./A/10", "answer=a. authority=b.", 10)
	kept(t, "a./A/10 b./A/20", "answer=a. authority=b.", 10)
	kept(t, "a./A/20 b./NS/30/n. c./NS/10/n.", "answer=a. authority=b./NS,c./NS", 10)
	kept(t, "a./A/604799", "answer=a.", 604799)
	kept(t, "a./A/604800", "answer=a.", 604800)
	kept(t, "a./A/604801", "answer=a.", 604800)
	kept(t, "a./A/2147483647 b./A/2147483647", "answer=a. authority=b.", 604800)
	scripts(t, 2, 2,
		// What counts is how long they are not over then.
		"set a./A/10 at=0; put a. at=9: true; get a. at=9: until=10; get a. at=10: -",
		"set a./A/10 at=0; set b./A/10 at=3; put q. answer=a.,b. at=5: true; get q. at=5: until=10",
		"set a./A/10 at=0; set b./A/10 at=3; put q. answer=b.,a. at=5: true; get q. at=5: until=10",
		"set a./A/10 at=100; put a. at=50: true; get a. at=50: until=110",
		"set a./A/604800 at=1000; put a. at=0: true; get a. at=0: until=604800 answer=a./A/604800/1; get a. at=604799: until=604800; look a. at=604800: until=605800; get a. at=604800: -",
		// A set that is longer by now doesn't make an answer longer; put again it is.
		"set a./A/10 at=0; put a. at=0: true; set a./A/50 at=5; get a. at=5: until=10; put a. at=5: true; get a. at=5: until=55",
		"set a./A/50 at=0; put a. at=0; set a./A/5 at=1; put a. at=1: true; get a. at=1: until=6",
	)
}

// minimums are sets of SOA that are there, what an answer that ends without what was asked has in Authority, and for how long it is kept, its other sets being there for 500 seconds.
func minimums() []struct {
	sets, authority string
	seconds         int
} {
	return []struct {
		sets, authority string
		seconds         int
	}{
		{"", "", 5},
		{"", "q.", 5},
		{"", "q.,a./NS", 5},
		{"s./SOA/100/7", "s./SOA/100/7", 7},
		{"s./SOA/100/1", "s./SOA/100/1", 1},
		{"s./SOA/100/0", "s./SOA/100/0", 0},
		{"s./SOA/100/99", "s./SOA/100/99", 99},
		{"s./SOA/100/100", "s./SOA/100/100", 100},
		{"s./SOA/100/101", "s./SOA/100/101", 100},
		{"s./SOA/100/4294967295", "s./SOA/100/4294967295", 100},
		{"s./SOA/604800/4294967295", "q.,s./SOA/604800/4294967295", 500},
		{"s./SOA/3/7", "s./SOA/3/7", 3},
		// The first set of SOA, wherever it stands; the first Data of it.
		{"s./SOA/100/7", "q.,s./SOA/100/7,a./NS", 7},
		{"s./SOA/100/7 z./SOA/100/9", "s./SOA/100/7,z./SOA/100/9", 7},
		{"s./SOA/100/9 z./SOA/100/7", "s./SOA/100/9,z./SOA/100/7", 9},
		{"s./SOA/100/9 z./SOA/8/7", "q.,s./SOA/100/9,z./SOA/8/7", 8},
		{"s./SOA/100/9+7", "s./SOA/100/9+7", 9},
		{"s./SOA/100/7", "s./SOA/100/7+bad", 7},
		{"s./SOA/100/0 z./SOA/100/9", "s./SOA/100/0,z./SOA/100/9", 0},
		// That of the answer, though sets has another.
		{"s./SOA/100/9", "s./SOA/100/7", 7},
		{"s./SOA/100/7", "s./SOA/100/9", 9},
		{"s./SOA/100/7", "s./SOA/100/bad", 5},
		{"s./SOA/100/3", "s./SOA/100/bad", 5},
		{"s./SOA/100/7", "s./SOA/100/bad+9", 5},
		{"s./SOA/100/7", "s./SOA/100/+", 5},
		{"s./SOA/100/7 z./SOA/100/9", "s./SOA/100/bad,z./SOA/100/9", 5},
		{"s./SOA/4/7", "s./SOA/100/bad", 4},
	}
}

// P17.1: where the last set is none of what was asked, an answer is kept no longer than the first SOA of Authority says.
func TestMinimum(t *testing.T) {
	const there = "q./A/500 q./NS/500/n. q./CNAME/500/n. a./NS/500/n. "
	for _, short := range []string{"answer=", "answer=a./NS", "answer=q.,a./NS", "answer=q./NS,q./CNAME", "type=NS answer=a./NS,q.", "type=0 answer=q.", "type=65535 answer=q.", "type=ANY answer=", "rcode=3 answer=", "rcode=3 answer=q./NS", "sec=2 answer="} {
		for _, x := range minimums() {
			kept(t, there+x.sets, short+" authority="+x.authority, x.seconds)
		}
	}
	// An SOA in Answer is not one in Authority.
	kept(t, "s./SOA/100/7", "type=TXT answer=s./SOA/100/7", 5)
	kept(t, "s./SOA/100/7 z./SOA/100/9", "answer=s./SOA/100/7 authority=z./SOA/100/9", 9)
}

// P17.1: where the last set is what was asked, or all was asked, no SOA counts but by its TTL.
func TestNoMinimum(t *testing.T) {
	for _, long := range []string{"answer=q.", "answer=a.", "answer=a./NS,q.", "answer=q./CNAME,a.", "type=A answer=q.,q./CNAME,a.", "rcode=3 answer=q.", "type=NS answer=a./NS", "type=ANY answer=q.", "type=ANY answer=a./NS", "type=ANY answer=q.,a./NS"} {
		const there = "q./A/500 a./A/500 q./NS/500/n. q./CNAME/500/n. a./NS/500/n. "
		kept(t, there, long, 500)
		kept(t, there, long+" authority=a./NS", 500)
		kept(t, there+"s./SOA/700/7", long+" authority=s./SOA/700/7", 500)
		kept(t, there+"s./SOA/700/0", long+" authority=s./SOA/700/0", 500)
		kept(t, there+"s./SOA/700/7", long+" authority=s./SOA/700/bad", 500)
		kept(t, there+"s./SOA/100/7", long+" authority=s./SOA/100/7", 100)
	}
	kept(t, "s./SOA/100/7", "type=SOA answer=s./SOA/100/7", 100)
	kept(t, "s./SOA/100/7", "type=SOA answer=s./SOA/100/7 authority=s./SOA/100/7", 100)
}

// P17.1: an answer is kept no longer than till its own Until.
func TestUntil(t *testing.T) {
	for _, x := range []struct{ until, seconds int }{
		{0, 10}, {1, 0}, {5, 0}, {99, 0}, {100, 0}, {101, 1}, {102, 2}, {109, 9}, {110, 10}, {111, 10}, {1000, 10}, {1 << 32, 10}, {1<<63 - 1, 10},
		{-1, 0}, {-100, 0}, {-1 << 63, 0},
	} {
		until := " until=" + strconv.Itoa(x.until)
		kept(t, "a./A/10", "answer=a."+until, x.seconds)
		kept(t, "a./A/20 b./A/10", "answer=a. authority=b."+until, x.seconds)
		kept(t, "s./SOA/100/10", "answer= authority=s./SOA/100/10"+until, x.seconds)
		kept(t, "", "answer="+until, min(x.seconds, 5))
		kept(t, "s./SOA/100/0", "answer= authority=s./SOA/100/0"+until, 0)
	}
	scripts(t, 2, 2,
		"set a. at=0; put a. until=7 at=0: true; get a. at=6: until=7 answer=a./A/1/1; get a. at=7: -; look a. at=7: a./A/3/1",
		"set a. at=4294967295; put a. at=4294967295 until=4294967296: true; get a. at=4294967295: until=4294967296 answer=a./A/1/1",
		"set a. at=4294967295; put a. at=4294967295 until=4294967295: false; len: 0",
		"set a. at=0; put a. at=0 until=1: true; get a. at=0: until=1; get a. at=1: -",
		// What is put last counts, for longer or shorter.
		"set a. at=0; put a. at=0 until=7; put a. at=0: true; get a. at=7: until=10",
		"set a. at=0; put a. at=0; put a. at=0 until=7: true; get a. at=6: until=7; get a. at=7: -",
		"set a. at=0; put a. at=0; put a. at=5 until=5: false; len: 0; get a. at=5: -",
	)
}
