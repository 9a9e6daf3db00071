package msgcache_test

import (
	"math"
	"strconv"
	"strings"
	"testing"

	"guidepost/api"
	"guidepost/msgcache"
	"guidepost/rrcache"
	"guidepost/table"
)

// The chapter's examples.
func TestExamples(t *testing.T) {
	scripts(t, 10, 10,
		"set a./A/10/1: true; put a. answer=a./A/10/1 at=2: true; get a. at=5: answer=a./A/5/1",
		"set a./A/10/1; put a. answer=a./A/10/1 at=2: true; set a./A/10/2 at=5; get a. at=5: -",
		"set ./SOA/100/7: true; put n. rcode=3 answer= authority=./SOA/100/7: true; get n. at=6: rcode=3 answer= authority=./SOA/1/7; get n. at=7: -",
	)
}

// P17.1: how many there may be.
func TestNew(t *testing.T) {
	for _, most := range []int{math.MinInt, -1, 0, 1, 2, 3, 1000, 99999, 100000, 100001, math.MaxInt} {
		_, want := table.New[string, int](most)
		sets := must(rrcache.New(10))
		c, e := msgcache.New(most, sets)
		if e != want || (c != nil) != (e == api.OK) {
			t.Errorf("New(%d): %v, %v, want %v", most, c, e, want)
		}
		if e == api.OK {
			both{sets, c}.doAll(t, "len: 0; get a.: -; set a.: true; get a.: -; put a.: true; get a.: answer=a./A/10/1; len: 1")
		}
	}
	for _, most := range []int{0, 100001} {
		if _, e := msgcache.New(most, must(rrcache.New(1))); e != api.ErrArg {
			t.Error(most, e)
		}
	}
}

// refused tells how a Put that may not be leaves caches in which a. was used longest ago, and how it answers in empty ones.
func refused(t *testing.T, how string) {
	t.Helper()
	scripts(t, 2, 2,
		how+": ErrArg; len: 0; sets: 0",
		"set a.; set b.; put b. answer=; put a. sec=2 authority=b.; put b. answer= sec=1; "+how+": ErrArg; len: 2; get a.: rcode=0 sec=2 until=10 answer=a./A/10/1 authority=b./A/10/1; get b.: sec=1",
		// It uses no answer, and no set.
		"set a./A/10/1; set b./A/10/1; put a.; put b.; set a.; set b.; "+how+": ErrArg; put c. answer=; get a.: -; get b.: answer=b./A/10/1; set c.; there a.: false; there b. v=2: true",
	)
}

// P17.1: questions that may not be asked.
func TestPutWrongQuestions(t *testing.T) {
	for _, kind := range []int{math.MinInt, -65536, -1, 65536, 65536 + api.TypeA, 1<<32 + api.TypeA, math.MaxInt} {
		refused(t, "put a. answer=a. type="+strconv.Itoa(kind))
	}
	for _, class := range []int{math.MinInt, -1, 0, 2, 3, 255, 256 + api.IN, 65535, 65536 + api.IN, math.MaxInt} {
		refused(t, "put a. class="+strconv.Itoa(class))
	}
	for _, n := range wrongNames() {
		b := made(t, 2, 2)
		b.doAll(t, "set a.; put a.; put b. answer=")
		for _, a := range []msgcache.Answer{{}, {Answer: setsOf("a.")}, {Answer: []api.Set{{Name: n, Type: api.TypeA}}}} {
			if got := putText(b.answers.Put(api.Question{Name: n, Type: api.TypeA, Class: api.IN}, a, 0)); got != "ErrArg" {
				t.Errorf("%q: %s", n, got)
			}
			if got := answerText(b.answers.Get(api.Question{Name: n, Type: api.TypeA, Class: api.IN}, 0)); got != "-" {
				t.Errorf("%q: %s", n, got)
			}
		}
		b.doAll(t, "len: 2; get a.: answer=a./A/10/1; get b.: until=5")
	}
	longest := strings.Repeat("a.", 127)
	for _, kind := range []string{"type=0", "type=1", "type=41", "type=46", "type=255", "type=65535"} {
		scripts(t, 2, 2,
			"put a. answer= "+kind+": true; get a. "+kind+": until=5; get a. type=2: -",
			"put . answer= "+kind+": true; get . "+kind+": until=5",
			"put "+longest+" answer= "+kind+": true; get "+longest+" "+kind+": until=5",
		)
	}
}

// P17.1: Rcodes, securities and times that may not be, alone and together.
func TestPutNumbers(t *testing.T) {
	for _, how := range []string{
		"rcode=-1", "rcode=1", "rcode=2", "rcode=4", "rcode=5", "rcode=16", "rcode=256", "rcode=259", "rcode=9223372036854775807", "rcode=-9223372036854775808",
		"sec=-1", "sec=4", "sec=256", "sec=9223372036854775807", "sec=-9223372036854775808",
		"at=-1", "at=4294967296", "at=9223372036854775807", "at=-9223372036854775808",
		"rcode=2 sec=4 at=-1 class=3 type=-1", "sec=4 until=-1", "at=-1 until=-1", "at=4294967296 until=4294967297",
	} {
		refused(t, "put a. answer=a. "+how)
		// What would let an answer go does not, if it is refused.
		refused(t, "put a. answer=x. "+how)
		refused(t, "put a. answer=a. authority=a.,x. until=-5 "+how)
	}
	for _, how := range []string{"rcode=0", "rcode=3", "sec=0", "sec=1", "sec=2", "sec=3"} {
		scripts(t, 2, 2,
			"set a.; put a. "+how+": true; get a.: until=10 answer=a./A/10/1 "+how,
			"set a./SOA/10/9; put a. answer= authority=a./SOA/10/9 "+how+": true; get a.: until=9 answer= authority=a./SOA/9/9 "+how,
		)
	}
	scripts(t, 2, 2,
		"set a. at=0; put a. at=0: true; get a. at=0: until=10",
		"set a. at=4294967295; put a. at=4294967295: true; get a. at=4294967295: until=4294967305 answer=a./A/10/1; get a. at=4294967296: -; len: 1",
		"set a./A/1 at=4294967294; put a. at=4294967294: true; get a. at=4294967294: until=4294967295 answer=a./A/1/1; get a. at=4294967295: -; len: 0",
		"put a. answer= at=4294967295: true; get a. at=4294967295: until=4294967300",
	)
}

// P17.1: how many sets there may be in Answer, and in Authority.
func TestPutManySets(t *testing.T) {
	for _, many := range []int{21, 22, 41, 300} {
		refused(t, "put a. answer="+strings.Repeat("a.,", many))
		refused(t, "put a. authority="+strings.Repeat("a.,", many))
		refused(t, "put a. answer="+strings.Repeat("a.,", many)+" authority="+strings.Repeat("a.,", many))
		refused(t, "put a. answer="+strings.Repeat("x.,", many))
	}
	told := strings.TrimSuffix(strings.Repeat("a./A/10/1,", 20), ",")
	scripts(t, 1, 1,
		"set a.; put a. answer="+told+" authority="+told+": true; get a.: until=10 answer="+told+" authority="+told,
		"set a.; put a. answer="+told+": true; get a.: answer="+told+" authority=",
		"set a.; put a. answer= authority="+told+": true; get a.: until=5 answer=",
	)
	b := made(t, 1, 40)
	var answer, authority []string
	for i := range 20 {
		answer, authority = append(answer, "n"+strconv.Itoa(i)+"./A/10/1"), append(authority, "m"+strconv.Itoa(i)+"./NS/10/n.")
		b.doAll(t, "set "+answer[i]+": true; set "+authority[i]+": true")
	}
	both := "answer=" + strings.Join(answer, ",") + " authority=" + strings.Join(authority, ",")
	b.doAll(t, "put q. "+both+": true; get q.: "+both)
}

// P17.1: an answer is kept only if all of its sets are there; if not, what was kept for the question goes, and nothing else.
func TestPutMissingSets(t *testing.T) {
	const first = "set a.; set b.; put q. answer=a. sec=1: true; put r. answer=a. sec=1: true; put q. type=NS answer=b. sec=1: true; len: 3; "
	for _, missing := range []string{
		"answer=x.", "answer=x.,a.", "answer=a.,x.", "answer=a.,x.,b.", "answer=a./NS", "answer=b.a.", "answer=.",
		"authority=x. answer=a.", "authority=x.,a. answer=a.", "authority=a.,x. answer=a.", "authority=a./SOA answer=a.", "authority=x./SOA answer=", "answer=x. authority=x.",
		// It is in Put of the other letters and the other security, too, that the question is the same.
		"answer=x. sec=3 rcode=3", "answer=x. until=1000",
	} {
		scripts(t, 5, 5,
			first+"put q. "+missing+": false; len: 2; get q.: -; get r.: sec=1; get q. type=NS: sec=1",
			first+"put Q. "+missing+": false; len: 2; get q.: -",
			first+"put z. "+missing+": false; len: 3; get z.: -; get q.: sec=1",
		)
	}
	scripts(t, 5, 5,
		// A set that is over is not there, and goes from sets.
		"set a./A/10 at=0; put q. answer=a. at=9: true; put q. answer=a. at=10: false; len: 0; sets: 0",
		"set a./A/10 at=0; set b./A/20 at=0; put q. answer=b. at=9: true; put q. answer=b. authority=a. at=10: false; get q. at=10: -; sets: 1",
		"set a./A/10 at=0; put q. answer=a. at=11: false; put q. answer=a. at=4294967295: false; len: 0",
		"set a./A/10 at=0; sweep at=10: 1; put q. answer=a.: false",
		"set a./A/0 at=0: false; put q. answer=a./A/0: false",
	)
	b := made(t, 2, 2)
	for _, n := range wrongNames() {
		b.doAll(t, "set a.; put q. answer=a.: true")
		a := msgcache.Answer{Answer: []api.Set{setOf("a."), {Name: n, Type: api.TypeA, Class: api.IN}}}
		if got := putText(b.answers.Put(lineOf("put q.").ask(), a, 0)); got != "false" {
			t.Errorf("%q: %s", n, got)
		}
		b.doAll(t, "len: 0")
	}
}

// P17.1: sets are asked for one by one, those of Answer first, up to the first one that is not there.
func TestPutAsks(t *testing.T) {
	const first = "set a.; set b.; set c.; put q. "
	scripts(t, 5, 3,
		first+"answer=: true; set d.; there a. v=1: false",
		first+"answer=a.: true; set d.; there a. v=1: true; there b. v=2: false",
		first+"answer=c.,b.,a.: true; set d.; there c. v=3: false; set e.; there b. v=2: false; there a. v=1: true",
		first+"answer=b. authority=a.,c.: true; set d.; there b. v=2: false; set e.; there a. v=1: false; there c. v=3: true",
		first+"answer=a.,x.,b.: false; set d.; there a. v=1: true; there b. v=2: false",
		first+"answer=x.,a.: false; set d.; there a. v=1: false",
		first+"answer=x. authority=a.: false; set d.; there a. v=1: false",
		first+"answer=a. authority=x.,b.: false; set d.; there a. v=1: true; there b. v=2: false",
		// Also if it can't be kept, whatever is there.
		first+"answer=a. until=-1: false; set d.; there a. v=1: true; there b. v=2: false",
		first+"answer=b.,a. until=1 at=1: false; set d.; there a. v=1: true; there b. v=2: true; there c. v=3: false",
	)
	// Those that are over go, up to the first one.
	scripts(t, 5, 3,
		"set a./A/1; set b./A/1; set c.; put q. answer=c.,a.,b. at=5: false; sets: 2; there b. v=2: true",
		"set a./A/1; set b./A/1; set c.; put q. answer=b. authority=a. at=5: false; sets: 2; there a. v=1: true",
	)
}

// P17.1: a set of an answer is that of sets, by its name and type alone.
func TestPutOtherSets(t *testing.T) {
	for _, other := range []string{"a./A/10/1+2/x", "a./A/10/9", "a./A/99/1+2/x", "a./A/1/1+2/x", "a./A/0/1+2/x", "a./A/-5/1+2/x", "a./A/9223372036854775807/1+2/x", "A./A/10/1+2/x", "a./A/10/1+2", "a./A/10/2+1/y", "a./A/5/1/z"} {
		scripts(t, 2, 2,
			"set a./A/10/1+2/x at=0; put q. answer="+other+" at=2: true; get q. at=5: until=10 answer=a./A/5/1+2/x; get q. at=9: answer=a./A/1/1+2/x; get q. at=10: -",
			"set a./A/10/1+2/x at=0; put q. answer= authority="+other+" at=2: true; get q. at=3: until=7 answer= authority=a./A/4/1+2/x",
			"set A./A/10/1+2/x at=0; put q. answer="+other+": true; get q. at=3: until=10 answer=A./A/7/1+2/x",
		)
	}
	b := made(t, 2, 2)
	b.doAll(t, "set a./A/10/1+2/x at=0")
	for _, s := range []api.Set{{}, {Class: 3}, {Class: -1, TTL: -1, Data: []string{"no", "address"}, Sigs: []string{"none"}}} {
		s.Name, s.Type = named("a."), api.TypeA
		if got := putText(b.answers.Put(lineOf("put a.").ask(), msgcache.Answer{Answer: []api.Set{s}}, 2)); got != "true" {
			t.Errorf("%v: %s", s, got)
		}
		b.doAll(t, "get a. at=5: until=10 answer=a./A/5/1+2/x")
	}
	// The rank and the security of the set count for nothing.
	for rank := 1; rank <= 4; rank++ {
		for security := 0; security <= 3; security++ {
			b := made(t, 2, 2)
			b.sets.Put(setOf("a."), rank, security, 0)
			b.doAll(t, "put q. answer=a. sec=1: true; get q.: sec=1 answer=a./A/10/1")
		}
	}
}
