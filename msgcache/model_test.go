package msgcache_test

import (
	"math/rand"
	"slices"
	"strconv"
	"strings"

	"guidepost/api"
	"guidepost/data"
	"guidepost/msgcache"
	"guidepost/rrcache"
)

// place is where the slow reading finds a set again.
type place struct {
	name          string
	kind, version int
}

// item is an answer that the slow reading knows.
type item struct {
	name                         string
	kind, rcode, security, until int
	answer, authority            []place
}

// model is a slow second reading of the document: a list, the answer that was used last first, and sets of its own.
type model struct {
	most int
	list []item
	sets *rrcache.Cache
}

func isTime(now int) bool { return now >= 0 && now <= lastTime }

// small is a name in wire form with small letters; a length byte is never a letter.
func small(n string) string { return strings.ToLower(n) }

func (m *model) at(q api.Question) int {
	return slices.IndexFunc(m.list, func(x item) bool { return x.name == small(q.Name) && x.kind == q.Type })
}

func (m *model) drop(q api.Question) {
	m.list = slices.DeleteFunc(m.list, func(x item) bool { return x.name == small(q.Name) && x.kind == q.Type })
}

// use brings an item to the first place, and drops what is too many.
func (m *model) use(q api.Question, x item) {
	m.drop(q)
	m.list = slices.Insert(m.list, 0, x)
	m.list = m.list[:min(len(m.list), m.most)]
}

// wrong is whether Put may not be. (All names of these tests are names.)
func wrong(q api.Question, a msgcache.Answer, now int) bool {
	return q.Type < 0 || q.Type > 65535 || q.Class != 1 || !slices.Contains([]int{0, 3}, a.Rcode) || !slices.Contains([]int{0, 1, 2, 3}, a.Security) || len(a.Answer) > 20 || len(a.Authority) > 20 || !isTime(now)
}

// end is when an answer whose sets have these TTLs is over.
func end(q api.Question, a msgcache.Answer, ttls []int, now int) int {
	ends := []int{now + 604800}
	for _, ttl := range ttls {
		ends = append(ends, now+ttl)
	}
	if len(a.Answer) == 0 || a.Answer[len(a.Answer)-1].Type != q.Type && q.Type != api.TypeANY {
		seconds := 5
		for _, s := range slices.Backward(a.Authority) {
			if s.Type != api.TypeSOA {
				continue
			}
			seconds = 5
			if len(s.Data) > 0 && data.Right(api.TypeSOA, s.Data[0]) {
				seconds = must(data.Soa(s.Data[0])).Minimum
			}
		}
		ends = append(ends, now+seconds)
	}
	if a.Until != 0 {
		ends = append(ends, a.Until)
	}
	return slices.Min(ends)
}

func (m *model) put(q api.Question, a msgcache.Answer, now int) string {
	if wrong(q, a, now) {
		return "ErrArg"
	}
	var places []place
	var ttls []int
	for _, s := range slices.Concat(a.Answer, a.Authority) {
		e, found := m.sets.Get(s.Name, s.Type, now)
		if !found {
			m.drop(q)
			return "false"
		}
		places, ttls = append(places, place{s.Name, s.Type, e.Version}), append(ttls, e.Set.TTL)
	}
	until := end(q, a, ttls, now)
	if until <= now {
		m.drop(q)
		return "false"
	}
	count := len(a.Answer)
	m.use(q, item{small(q.Name), q.Type, a.Rcode, a.Security, until, places[:count], places[count:]})
	return "true"
}

func (m *model) get(q api.Question, now int) string {
	i := m.at(q)
	if i < 0 || !isTime(now) {
		return "-"
	}
	x := m.list[i]
	if now >= x.until {
		m.drop(q)
		return "-"
	}
	var told []string
	for _, p := range slices.Concat(x.answer, x.authority) {
		e, found := m.sets.Get(p.name, p.kind, now)
		if !found || e.Version != p.version {
			m.drop(q)
			return "-"
		}
		e.Set.TTL = min(e.Set.TTL, x.until-now)
		told = append(told, setText(e.Set))
	}
	m.use(q, x)
	count := len(x.answer)
	return "rcode=" + strconv.Itoa(x.rcode) + " sec=" + strconv.Itoa(x.security) + " until=" + strconv.Itoa(x.until) + " answer=" + strings.Join(told[:count], ",") + " authority=" + strings.Join(told[count:], ",")
}

func pick[T any](r *rand.Rand, list ...T) T { return list[r.Intn(len(list))] }

// cased is a name in drawn letters.
func cased(r *rand.Rand, n string) string {
	if r.Intn(3) == 0 {
		return strings.ToUpper(n)
	}
	return n
}

// drawnSet is one of few, in words.
func drawnSet(r *rand.Rand) string {
	n := cased(r, pick(r, "a.", "b.", "a.b."))
	ttl := "/" + pick(r, "1", "2", "5", "10", "20", "40", "40", "604799", "604800", "604801")
	switch r.Intn(5) {
	case 0:
		return n + "/NS" + ttl + "/" + pick(r, "n.", "N.", "n.", "m.+n.")
	case 1:
		return n + "/SOA" + ttl + "/" + pick(r, "3", "7", "20", "7+3", "0", "4294967295") + pick(r, "", "", "/x")
	}
	return n + "/A" + ttl + "/" + pick(r, "1", "1", "1+2", "2+1", "2") + pick(r, "", "", "/x", "/x+y", "/y+x")
}

// drawnSets are some, mostly few.
func drawnSets(r *rand.Rand) []api.Set {
	var list []api.Set
	for range pick(r, 0, 0, 1, 1, 1, 2, 2, 3, 3) {
		s := setOf(drawnSet(r))
		if r.Intn(20) == 0 {
			s.Data = pick(r, nil, []string{"\x00"}, append([]string{"\x00"}, s.Data...))
		}
		list = append(list, s)
	}
	return list
}

// drawnQuestion is one of few, or nearly.
func drawnQuestion(r *rand.Rand) api.Question {
	q := api.Question{Name: named(cased(r, pick(r, "a.", "b.", "a.b.", "."))), Type: pick(r, 1, 1, 2, 6, 255), Class: api.IN}
	if r.Intn(60) == 0 {
		q.Type = pick(r, -1, 0, 65535, 65536, 65537)
	}
	return q
}

// drawnAnswer is one that may be put, or nearly, about a time.
func drawnAnswer(r *rand.Rand, about int) msgcache.Answer {
	a := msgcache.Answer{Rcode: pick(r, 0, 0, 3), Security: r.Intn(4), Answer: drawnSets(r), Authority: drawnSets(r)}
	if r.Intn(3) == 0 {
		a.Until = about + pick(r, -1, 0, 1, 2, 3, 5, 10, 20, 100)
	}
	switch r.Intn(80) {
	case 0:
		a.Rcode = pick(r, -1, 1, 2, 4)
	case 1:
		a.Security = pick(r, -1, 4)
	case 2:
		a.Until = pick(r, -1, -100, 1<<40)
	case 3:
		a.Answer = slices.Repeat(a.Answer, 21)
	case 4:
		a.Authority = slices.Repeat(a.Authority, 21)
	}
	return a
}

// drawnTime is one about a time: seldom none, or far off.
func drawnTime(r *rand.Rand, about int) int {
	if r.Intn(40) == 0 {
		return pick(r, -1, 0, lastTime, lastTime+1)
	}
	return about + r.Intn(7) - 1
}
