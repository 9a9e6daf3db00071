package rrcache_test

import (
	"math"
	"strconv"
	"strings"
	"testing"

	"guidepost/api"
	"guidepost/rrcache"
	"guidepost/rrset"
	"guidepost/table"
)

// The chapter's examples.
func TestExamples(t *testing.T) {
	scripts(t, 2,
		"put a. ttl=10 at=5: true; get a. at=9: ttl=6; get a. at=15: -",
		"put a. ttl=10 at=5: true; put a. data=2 rank=1 at=6: false; get a. at=6: data=1; put a. data=2 rank=1 at=16: true; get a. at=16: data=2 rank=1",
		"put a.; put b.; get a.: a.; put c.; get b.: -; get a.: a.; get c.: c.",
	)
}

// P16.1: how many there may be.
func TestNew(t *testing.T) {
	for _, most := range []int{math.MinInt, -1, 0, 1, 2, 3, 1000, 99999, 100000, 100001, math.MaxInt} {
		_, want := table.New[string, int](most)
		c, e := rrcache.New(most)
		if e != want || (c != nil) != (e == api.OK) {
			t.Errorf("New(%d): %v, %v, want %v", most, c, e, want)
		}
		if e == api.OK {
			doAll(t, c, "len: 0; get a.: -; sweep at=4294967295: 0; mark a. v=0: false; mark a. v=1: false; put a.: true; get a.: v=1; len: 1")
		}
	}
	for _, most := range []int{0, 100001} {
		if _, e := rrcache.New(most); e != api.ErrArg {
			t.Error(most, e)
		}
	}
}

// wrongSets are sets that may not be put, and why.
func wrongSets() map[string]api.Set {
	list := map[string]api.Set{}
	add := func(why string, change func(s *api.Set)) {
		s := lineOf("put a. data=1,2 sigs=x").spec().set()
		change(&s)
		list[why] = s
	}
	for _, n := range wrongNames() {
		add("name "+strconv.Quote(n), func(s *api.Set) { s.Name = n })
	}
	for _, class := range []int{math.MinInt, -1, 0, 2, 3, 255, 256 + api.IN, 65535, 65536, 65536 + api.IN, math.MaxInt} {
		add("class "+strconv.Itoa(class), func(s *api.Set) { s.Class = class })
	}
	for _, kind := range []int{math.MinInt, -1, api.TypeOPT, api.TypeRRSIG, 65536, 65536 + api.TypeA, math.MaxInt} {
		add("type "+strconv.Itoa(kind), func(s *api.Set) { s.Type, s.Sigs = kind, nil })
	}
	for _, ttl := range []int{math.MinInt, -1, 1 << 31, 1 << 32, math.MaxInt} {
		add("TTL "+strconv.Itoa(ttl), func(s *api.Set) { s.TTL = ttl })
	}
	add("no data", func(s *api.Set) { s.Data = nil })
	add("other data", func(s *api.Set) { s.Data[1] = "123" })
	add("data twice", func(s *api.Set) { s.Data[1] = s.Data[0] })
	add("data twice in other letters", func(s *api.Set) {
		s.Type, s.Data, s.Sigs = api.TypeNS, []string{named("n."), named("N.")}, nil
	})
	add("201 data", func(s *api.Set) { s.Data = manyData(201) })
	add("a signature of another type", func(s *api.Set) { s.Sigs[0] = sigOf(api.TypeNS, "x") })
	add("a signature that is none", func(s *api.Set) { s.Sigs = append(s.Sigs, "") })
	add("201 signatures", func(s *api.Set) { s.Sigs = manySigs(201) })
	list["nothing"] = api.Set{}
	return list
}

func manyData(count int) []string {
	var list []string
	for i := range count {
		list = append(list, dataOf(api.TypeA, strconv.Itoa(i)))
	}
	return list
}

func manySigs(count int) []string {
	var list []string
	for i := range count {
		list = append(list, sigOf(api.TypeA, "s"+strconv.Itoa(i)))
	}
	return list
}

// P16.1: sets that are not right, or of another class, are refused, and nothing changes by that.
func TestPutWrongSets(t *testing.T) {
	for why, s := range wrongSets() {
		if rrset.Right(s) && s.Class == api.IN {
			t.Fatal("right:", why)
		}
		c := made(t, 2)
		if got := putOf(c.Put(s, api.RankSigned, api.Secure, 5)); got != "ErrArg" {
			t.Errorf("%s: %s", why, got)
		}
		doAll(t, c, "len: 0; put b.: true; put a.: true; get b.: v=1; get a.: v=2 data=1")
		if got := putOf(c.Put(s, api.RankSigned, api.Secure, 5)); got != "ErrArg" {
			t.Errorf("%s, again: %s", why, got)
		}
		doAll(t, c, "len: 2; get b.: v=1 ttl=10; get a.: v=2 ttl=10 data=1 rank=3 sec=0 until=10")
	}
}

// P16.1: sets that are just right are taken, and told as they are.
func TestPutEdges(t *testing.T) {
	longest := strings.Repeat("\x01a", 127) + "\x00"
	for why, s := range map[string]api.Set{
		"the root":           {Name: "\x00", Type: api.TypeA, Data: manyData(1)},
		"a name of 255":      {Name: longest, Type: api.TypeA, Data: manyData(1)},
		"type 0":             {Name: longest, Type: 0, Data: []string{""}},
		"type 65535":         {Name: longest, Type: 65535, Data: []string{"any", ""}},
		"type ANY":           {Name: longest, Type: api.TypeANY, Data: []string{"any"}},
		"200 data":           {Name: longest, Type: api.TypeA, Data: manyData(200)},
		"200 signatures":     {Name: longest, Type: api.TypeA, Data: manyData(2), Sigs: manySigs(200)},
		"a signature twice":  {Name: longest, Type: api.TypeA, Data: manyData(2), Sigs: []string{manySigs(1)[0], manySigs(1)[0]}},
		"data of 2000 bytes": {Name: longest, Type: 7, Data: []string{strings.Repeat("d", 2000)}},
	} {
		s.Class, s.TTL = api.IN, 60
		c := made(t, 1)
		if got := putOf(c.Put(s, 3, 0, 100)); got != "true" {
			t.Errorf("%s: %s", why, got)
		}
		if x, found := c.Get(s.Name, s.Type, 100); !found || !sameSet(x.Set, s) || x.Version != 1 || x.Until != 160 || x.Rank != 3 || x.Security != 0 {
			t.Errorf("%s: %+v, %v", why, x, found)
		}
	}
}

// P16.1: ranks, securities and times that may not be, alone and with all that would be told behind them.
func TestPutNumbers(t *testing.T) {
	for _, how := range []string{
		"rank=-1", "rank=0", "rank=5", "rank=9223372036854775807", "rank=-9223372036854775808",
		"sec=-1", "sec=4", "sec=9223372036854775807", "sec=-9223372036854775808",
		"at=-1", "at=4294967296", "at=9223372036854775807", "at=-9223372036854775808",
		"rank=0 sec=4 at=-1", "rank=1 sec=4 at=4294967296",
	} {
		scripts(t, 2,
			"put a. "+how+": ErrArg; len: 0; put a.: true; get a.: v=1; len: 1",
			"put a. data=2 rank=4 sec=1; put a. "+how+": ErrArg; get a.: data=2 rank=4 sec=1 v=1 until=10 ttl=10; put b.; get b.: v=2",
			"put a. ttl=0 "+how+": ErrArg",
			"put a. rank=4; put a. rank=1 sec=4: ErrArg; put a. rank=1 at=-1: ErrArg; put a. ttl=0 class=3: ErrArg",
		)
	}
	for _, how := range []string{"rank=1", "rank=2", "rank=3", "rank=4", "sec=0", "sec=1", "sec=2", "sec=3"} {
		scripts(t, 2, "put a. "+how+": true; get a.: v=1 "+how)
	}
	scripts(t, 2,
		"put a. at=0: true; get a.: ttl=10 until=10",
		"put a. at=4294967295: true; get a. at=4294967295: ttl=10 until=4294967305; get a. at=4294967294: ttl=11; sweep at=4294967295: 0; len: 1",
		"put a. ttl=1 at=4294967294: true; get a. at=4294967294: ttl=1 until=4294967295; get a. at=4294967295: -",
	)
}

// P16.1: how long a set is kept.
func TestPutTTL(t *testing.T) {
	for _, c := range []struct{ ttl, kept int }{{1, 1}, {2, 2}, {604799, 604799}, {604800, 604800}, {604801, 604800}, {1 << 30, 604800}, {1<<31 - 1, 604800}} {
		for _, at := range []int{0, 7, 1 << 31, lastTime - 604800} {
			last := "at=" + strconv.Itoa(at+c.kept-1)
			now, end := "at="+strconv.Itoa(at), "at="+strconv.Itoa(at+c.kept)
			until := "until=" + strconv.Itoa(at+c.kept)
			script := "put a. ttl=" + strconv.Itoa(c.ttl) + " " + now + ": true; get a. " + now + ": ttl=" + strconv.Itoa(c.kept) + " " + until + "; get a. " + last + ": ttl=1 " + until + "; sweep " + last + ": 0"
			scripts(t, 1, script+"; get a. "+end+": -; len: 0", script+"; sweep "+end+": 1; len: 0")
		}
	}
}

// P16.1: of a TTL of 0 nothing is kept, whatever is there.
func TestPutNoTTL(t *testing.T) {
	scripts(t, 2,
		"put a. ttl=0: false; len: 0; get a.: -; put a.: true; get a.: v=1",
		"put a. ttl=0 rank=4 sec=2 at=100: false; len: 0; put b.: true; get b.: v=1",
		"put a. rank=1 at=5; put a. ttl=0 rank=4 sec=2 data=2 at=6: false; get a. at=6: data=1 rank=1 sec=0 v=1 until=15; len: 1",
		"put a. at=5; put a. ttl=0 at=6: false; get a. at=6: ttl=9 v=1 until=15",
		"put a. at=5; put a. ttl=0 data=2 at=15: false; len: 1; mark a. v=1: true; get a. at=14: data=1 v=1 until=15 sec=2",
		"put a. at=5; put A. ttl=0 at=6: false; get a. at=6: a.",
		"put a. at=5; put b. ttl=0: false; put c.: true; get c.: v=2; len: 2; get a. at=5: a.",
	)
}

// P16.1: what has a greater rank stays while it is not over; else what comes takes its place.
func TestPutRanks(t *testing.T) {
	for old := 1; old <= 4; old++ {
		for rank := 1; rank <= 4; rank++ {
			first := "put a. ttl=10 sec=1 sigs=x at=5 rank=" + strconv.Itoa(old) + ": true"
			for _, at := range []int{0, 5, 6, 13, 14, 15, 16, lastTime} {
				second := "put A. ttl=20 sec=2 data=2 rank=" + strconv.Itoa(rank) + " at=" + strconv.Itoa(at)
				get := "; len: 1; get a. at=" + strconv.Itoa(at)
				if old > rank && at < 15 {
					scripts(t, 2, first+"; "+second+": false"+get+": a. data=1 sigs=x sec=1 v=1 until=15 ttl="+strconv.Itoa(15-at)+" rank="+strconv.Itoa(old)+"; put b.; get b.: v=2")
				} else {
					scripts(t, 2, first+"; "+second+": true"+get+": A. data=2 sigs= sec=2 v=2 ttl=20 until="+strconv.Itoa(at+20)+" rank="+strconv.Itoa(rank)+"; put b.; get b.: v=3")
				}
			}
		}
	}
	scripts(t, 3,
		// The rank is that of the one that was put last.
		"put a. rank=3; put a. rank=4: true; put a. rank=3: false; put a. rank=4 data=2: true; put a. rank=2: false",
		"put a. rank=4 ttl=5; put a. rank=1 data=2 at=5: true; put a. rank=2 data=3 at=6: true; put a. rank=1 data=4 at=7: false; get a. at=7: data=3 rank=2",
		// What it is over by is its Until, not its TTL.
		"put a. rank=4 ttl=604900; put a. rank=1 data=2 at=604799: false; put a. rank=1 data=2 at=604800: true",
		// Other names and types don't count.
		"put a. rank=4; put b. rank=1: true; put a. type=TXT data=\"a\" rank=1: true; put a.a. rank=1: true; len: 3",
		// The security doesn't either.
		"put a. rank=2 sec=2; put a. rank=2 sec=3 data=2: true; get a.: sec=3 data=2; put a. rank=1 sec=2: false",
	)
}

// P16.1: a set is kept with its letters, as it was put last.
func TestPutLetters(t *testing.T) {
	scripts(t, 2,
		"put wWw.A.: true; get www.a.: wWw.A.; get WWW.A.: wWw.A.; put Www.a.: true; get wWw.A.: Www.a.; len: 1",
		"put a. type=NS data=N.A.,m.: true; get a. type=NS: data=N.A.,m.; put a. type=NS data=M.,n.a.: true; get a. type=NS: data=M.,n.a. v=1",
		"put a. data=3,1,2 sigs=y,x,z: true; get a.: data=3,1,2 sigs=y,x,z; put a. data=2,3,1 sigs=y,x,z; get a.: data=2,3,1 v=1",
		"put a. rank=2; put A. rank=1: false; get A.: a.; put A. rank=2: true; get a.: A.",
		"put [.; put {.: true; len: 2; get [.: v=1; get {.: v=2",
		"put @.; put `.: true; len: 2",
	)
}
