package msgcache_test

import (
	"fmt"
	"math/rand"
	"strings"
	"testing"

	"guidepost/api"
	"guidepost/msgcache"
	"guidepost/rrcache"
	"guidepost/rrset"
)

// pair are caches and their slow reading, and what has been done to them.
type pair struct {
	both
	t     *testing.T
	r     *rand.Rand
	m     model
	about int
	done  []string
	count map[string]int
}

// held holds an answer against the slow reading's.
func (p *pair) held(what string, got, want any) {
	p.t.Helper()
	p.done = append(p.done, fmt.Sprint(what, " -> ", got))
	if got != want {
		p.t.Fatalf("most %d\n%s\nwant %v", p.m.most, strings.Join(p.done, "\n"), want)
	}
}

// step does one drawn thing to both.
func (p *pair) step() {
	p.t.Helper()
	r := p.r
	p.about += max(0, r.Intn(6)-4)
	now := drawnTime(r, p.about)
	switch r.Intn(12) {
	case 0, 1, 2, 3:
		s, rank := setOf(drawnSet(r)), pick(r, 3, 3, 4)
		p.held(fmt.Sprint("set ", setText(s), " at ", now), putText(p.sets.Put(s, rank, 0, now)), putText(p.m.sets.Put(s, rank, 0, now)))
	case 4, 5, 6, 7:
		q, a := drawnQuestion(r), drawnAnswer(r, p.about)
		want := p.m.put(q, a, now)
		p.held(fmt.Sprintf("put %+v %+v at %d", q, a, now), putText(p.answers.Put(q, a, now)), want)
		p.count["put "+want]++
	case 8, 9, 10:
		q := drawnQuestion(r)
		p.get(q, now)
	default:
		if r.Intn(4) == 0 {
			p.held(fmt.Sprint("sweep ", now), p.sets.Sweep(now), p.m.sets.Sweep(now))
		}
	}
	p.held("len", p.answers.Len(), len(p.m.list))
	p.held("sets", p.sets.Len(), p.m.sets.Len())
}

func (p *pair) get(q api.Question, now int) {
	p.t.Helper()
	known := p.m.at(q) >= 0
	want := p.m.get(q, now)
	p.held(fmt.Sprintf("get %+v at %d", q, now), answerText(p.answers.Get(q, now)), want)
	switch {
	case want != "-":
		p.count["found"]++
	case known && p.m.at(q) < 0:
		p.count["gone"]++
	}
}

// same holds the sets that are there against the slow reading's: to be marked with the security that they have shows them, and changes nothing.
func (p *pair) same() {
	p.t.Helper()
	p.held("sets", p.sets.Len(), p.m.sets.Len())
	for _, n := range []string{"a.", "b.", "a.b.", "z1.", "z2.", "z3.", "z4."} {
		for _, kind := range []int{api.TypeA, api.TypeNS, api.TypeSOA} {
			for version := 1; version < 60; version++ {
				if got := p.sets.Mark(named(n), kind, version, 0); got != p.m.sets.Mark(named(n), kind, version, 0) {
					p.held(fmt.Sprint("there ", n, kind, version), got, !got)
				}
			}
		}
	}
}

// P17.1, P17.2: drawn things done to caches, held against a slow second reading.
func TestDrawn(t *testing.T) {
	r := rand.New(rand.NewSource(171))
	count := map[string]int{}
	for round := range 300 {
		most, sets := 1+round%7, pick(r, 2, 3, 4, 6, 9)
		b := made(t, most, sets)
		p := &pair{both: b, t: t, r: r, m: model{most: most, sets: must(rrcache.New(sets))}, about: pick(r, 0, 5, 1000000, lastTime-30), count: count}
		for range 80 {
			p.step()
		}
		// The order in which sets were used shows by those that go.
		for i := range sets - 1 {
			s := setOf("z" + fmt.Sprint(i%4+1) + "./" + pick(r, "A", "NS", "SOA"))
			p.held("set "+setText(s), putText(p.sets.Put(s, 3, 0, 0)), putText(p.m.sets.Put(s, 3, 0, 0)))
			p.same()
		}
	}
	for _, what := range strings.Split("found,gone,put true,put false,put ErrArg", ",") {
		if count[what] < 200 {
			t.Error("seldom:", what, count[what])
		}
	}
}

// event is an answer that was put: when, and what its sets were then.
type event struct {
	now     int
	a       msgcache.Answer
	entries []rrcache.Entry
}

// watch is caches whose time goes on, with what was put last for each question.
type watch struct {
	both
	t    *testing.T
	now  int
	last map[string]event
}

// entries are what sets has of sets, and whether it has all.
func (w *watch) entries(list []api.Set) ([]rrcache.Entry, bool) {
	var known []rrcache.Entry
	for _, s := range list {
		e, found := w.sets.Get(s.Name, s.Type, w.now)
		if !found {
			return nil, false
		}
		known = append(known, e)
	}
	return known, true
}

func listOf(a msgcache.Answer) []api.Set {
	return append(append([]api.Set{}, a.Answer...), a.Authority...)
}

func (w *watch) put(q api.Question, a msgcache.Answer) {
	w.t.Helper()
	known, all := w.entries(listOf(a))
	ok, _ := w.answers.Put(q, a, w.now)
	if ok && !all {
		w.t.Errorf("%d: %v is kept, without its sets", w.now, a)
	}
	if ok {
		w.last[small(q.Name)+fmt.Sprint(q.Type)] = event{w.now, a, known}
	}
}

// get holds what is told against what was put, and against the sets.
func (w *watch) get(q api.Question) bool {
	w.t.Helper()
	a, found := w.answers.Get(q, w.now)
	if !found {
		return false
	}
	e := w.last[small(q.Name)+fmt.Sprint(q.Type)]
	told := listOf(a)
	known, all := w.entries(told)
	if !all || len(told) != len(e.entries) || len(a.Answer) != len(e.a.Answer) || a.Rcode != e.a.Rcode || a.Security != e.a.Security || a.Until <= w.now || a.Until > e.now+604800 || e.a.Until != 0 && a.Until > e.a.Until {
		w.t.Fatalf("at %d: %+v, put: %+v", w.now, a, e)
	}
	for i, s := range told {
		was := e.entries[i]
		if !rrset.Same(s, was.Set) || known[i].Version != was.Version || s.TTL < 1 || w.now+s.TTL > min(was.Until, known[i].Until, a.Until) {
			w.t.Errorf("at %d: %+v of %+v, which was %+v", w.now, s, a, was)
		}
	}
	return true
}

// P17.3: while time goes on, an answer is told no longer than each of its sets, and only while these are what they were.
func TestFollows(t *testing.T) {
	r := rand.New(rand.NewSource(173))
	count := 0
	for round := range 200 {
		most := 1 + round%8
		w := &watch{made(t, most, pick(r, 3, 5, 8, 20)), t, 0, map[string]event{}}
		for range 200 {
			w.now += pick(r, 0, 0, 0, 1, 1, 2, 7)
			if r.Intn(50) == 0 {
				w.now += pick(r, 100, 604790, 604800)
			}
			for range r.Intn(3) {
				w.sets.Put(setOf(drawnSet(r)), 3, 0, w.now)
			}
			if r.Intn(2) == 0 {
				w.put(drawnQuestion(r), drawnAnswer(r, w.now))
			}
			for range 2 {
				if w.get(drawnQuestion(r)) {
					count++
				}
			}
			if w.answers.Len() > most {
				t.Errorf("%d of %d", w.answers.Len(), most)
			}
		}
	}
	if count < 1000 {
		t.Error("seldom:", count)
	}
}

// P17.3: what sets lose, the cache tells no more: of an answer with many sets each one is lost once.
func TestLost(t *testing.T) {
	const count = 20
	for lost := range 2 * count {
		b := made(t, 1, 2*count)
		var names []string
		for i := range 2 * count {
			names = append(names, "n"+fmt.Sprint(i)+".")
			b.doAll(t, "set "+names[i]+": true")
		}
		b.doAll(t, "put q. answer="+strings.Join(names[:count], ",")+" authority="+strings.Join(names[count:], ",")+": true; get q.: until=10; get q. at=9: until=10")
		b.doAll(t, "set "+names[lost]+"/A/10/2: true; get q. at=9: -; len: 0")
	}
}
