package rrcache_test

import (
	"math/rand"
	"slices"
	"strings"

	"guidepost/api"
	"guidepost/rrcache"
)

// item is a set that the slow reading knows.
type item struct {
	spec
	version, until int
}

// model is a slow second reading of the document, of sets in words: a list, the one that was used last first.
type model struct {
	most, versions int
	list           []item
}

func isTime(now int) bool { return now >= 0 && now <= lastTime }

func (m *model) place(n, kind string) int {
	return slices.IndexFunc(m.list, func(x item) bool { return strings.EqualFold(x.name, n) && x.kind == kind })
}

// use brings an item to the first place, and drops what is too many.
func (m *model) use(x item) {
	m.drop(x.name, x.kind)
	m.list = slices.Insert(m.list, 0, x)
	m.list = m.list[:min(len(m.list), m.most)]
}

func (m *model) drop(n, kind string) {
	m.list = slices.DeleteFunc(m.list, func(x item) bool { return strings.EqualFold(x.name, n) && x.kind == kind })
}

// sorted are data in one form: of A as they are, of other types of these tests with small letters.
func sorted(p spec) []string {
	return slices.Sorted(strings.SplitSeq(strings.ToLower(strings.Join(p.data, " ")), " "))
}

func (m *model) put(p spec) string {
	if p.class != 1 || p.ttl < 0 || p.rank < 1 || p.rank > 4 || p.security < 0 || p.security > 3 || !isTime(p.now) {
		return "ErrArg"
	}
	i := m.place(p.name, p.kind)
	if p.ttl == 0 || i >= 0 && m.list[i].until > p.now && m.list[i].rank > p.rank {
		return "false"
	}
	x := item{p, m.versions + 1, p.now + min(p.ttl, 604800)}
	if i >= 0 && slices.Equal(sorted(m.list[i].spec), sorted(p)) && slices.Equal(m.list[i].sigs, p.sigs) {
		x.version = m.list[i].version
	} else {
		m.versions++
	}
	m.use(x)
	return "true"
}

func (m *model) get(n, kind string, now int) (item, bool) {
	i := m.place(n, kind)
	if i < 0 || !isTime(now) {
		return item{}, false
	}
	x := m.list[i]
	if x.until <= now {
		m.drop(n, kind)
		return item{}, false
	}
	m.use(x)
	return x, true
}

func (m *model) mark(n, kind string, version, security int) bool {
	i := m.place(n, kind)
	if i < 0 || m.list[i].version != version || security < 0 || security > 3 {
		return false
	}
	m.list[i].security = security
	return true
}

func (m *model) sweep(now int) int {
	count := len(m.list)
	if isTime(now) {
		m.list = slices.DeleteFunc(m.list, func(x item) bool { return x.until <= now })
	}
	return count - len(m.list)
}

// entry is what Get must tell of an item.
func (x item) entry(now int) rrcache.Entry {
	e := rrcache.Entry{Set: x.set(), Rank: x.rank, Security: x.security, Version: x.version, Until: x.until}
	e.Set.TTL = min(x.until-now, 604800)
	return e
}

func pick[T any](r *rand.Rand, list ...T) T { return list[r.Intn(len(list))] }

// drawnName is one of few, in drawn letters.
func drawnName(r *rand.Rand) string {
	n := pick(r, "a.", "b.", "ab.", "a.b.", "b.a.", ".")
	if r.Intn(3) == 0 {
		n = strings.ToUpper(n)
	}
	return n
}

// drawnSpec is a set that may be put, or nearly, about a time.
func drawnSpec(r *rand.Rand, about int) spec {
	p := spec{name: drawnName(r), kind: pick(r, "A", "A", "NS"), class: api.IN, rank: 1 + r.Intn(4), security: r.Intn(4)}
	p.ttl = pick(r, 0, 1, 2, 5, 10, 20, 20, 40, 604799, 604800, 604801, 1<<31-1)
	p.data = [][]string{{"1"}, {"1", "2"}, {"2", "1"}, {"2"}}[r.Intn(4)]
	if p.kind == "NS" {
		p.data = [][]string{{"n."}, {"N."}, {"m.", "n."}, {"N.", "M."}}[r.Intn(4)]
	}
	p.sigs = [][]string{nil, nil, {"x"}, {"x", "y"}, {"y", "x"}}[r.Intn(5)]
	p.now = drawnTime(r, about)
	switch r.Intn(40) {
	case 0:
		p.rank = pick(r, -1, 0, 5)
	case 1:
		p.security = pick(r, -1, 4)
	case 2:
		p.class = pick(r, 0, 3, 255)
	case 3:
		p.ttl = -1
	}
	return p
}

// drawnTime is one about a time: seldom none, or far off.
func drawnTime(r *rand.Rand, about int) int {
	if r.Intn(30) == 0 {
		return pick(r, -1, 0, lastTime, lastTime+1)
	}
	return about + r.Intn(9) - 2
}
