package rrcache_test

import (
	"fmt"
	"math/rand"
	"strings"
	"testing"

	"guidepost/api"
	"guidepost/data"
	"guidepost/rrcache"
	"guidepost/rrset"
)

// both are a cache and its slow reading, and what has been done to them.
type both struct {
	t     *testing.T
	r     *rand.Rand
	c     *rrcache.Cache
	m     model
	about int
	done  []string
	count map[string]int
}

// held holds an answer against the slow reading's.
func (b *both) held(what string, got, want any) {
	b.t.Helper()
	b.done = append(b.done, fmt.Sprint(what, " -> ", got))
	if got != want {
		b.t.Fatalf("most %d\n%s\nwant %v", b.m.most, strings.Join(b.done, "\n"), want)
	}
}

// get asks both.
func (b *both) get(n, kind string, now int) {
	b.t.Helper()
	x, found := b.m.get(n, kind, now)
	want := "-"
	if found {
		want = entryText(x.entry(now), true)
		b.count["found"]++
	}
	got := entryText(b.c.Get(named(n), must(data.TypeOf(kind)), now))
	b.held(fmt.Sprint("get ", n, kind, now), got, want)
}

// mark marks in both: mostly what is there.
func (b *both) mark() {
	b.t.Helper()
	n, kind, version, security := drawnName(b.r), pick(b.r, "A", "NS"), b.r.Intn(b.m.versions+2), b.r.Intn(6)-1
	if i := b.m.place(n, kind); i >= 0 && b.r.Intn(4) > 0 {
		version = b.m.list[i].version
	}
	want := b.m.mark(n, kind, version, security)
	got := b.c.Mark(named(n), must(data.TypeOf(kind)), version, security)
	b.held(fmt.Sprint("mark ", n, kind, version, security), got, want)
	b.count[fmt.Sprint("mark ", got)]++
}

// step does one drawn thing to both.
func (b *both) step() {
	b.t.Helper()
	b.about += max(0, b.r.Intn(6)-3)
	now := drawnTime(b.r, b.about)
	switch b.r.Intn(12) {
	case 0, 1, 2, 3, 4:
		p := drawnSpec(b.r, b.about)
		want := b.m.put(p)
		b.held(fmt.Sprint("put ", p), p.put(b.c), want)
		b.count["put "+want]++
	case 5, 6, 7, 8:
		b.get(drawnName(b.r), pick(b.r, "A", "A", "NS"), now)
	case 9, 10:
		b.mark()
	default:
		if b.r.Intn(3) == 0 {
			want := b.m.sweep(now)
			b.held(fmt.Sprint("sweep ", now), b.c.Sweep(now), want)
			b.count["swept"] += want
		}
	}
	b.held("len", b.c.Len(), len(b.m.list))
	// To be marked with the security that it has shows that a set is there, in its version, and changes nothing.
	for _, x := range b.m.list {
		b.held(fmt.Sprint("there ", x), b.c.Mark(named(x.name), x.set().Type, x.version, x.security), true)
	}
}

// P16.1, P16.2: drawn things done to caches, held against a slow second reading.
func TestDrawn(t *testing.T) {
	r := rand.New(rand.NewSource(161))
	count := map[string]int{}
	for round := range 400 {
		most := 1 + round%9
		b := &both{t: t, r: r, c: made(t, most), m: model{most: most}, about: pick(r, 0, 5, 1000000, lastTime-30), count: count}
		for range 60 {
			b.step()
		}
		for _, x := range append([]item{}, b.m.list...) {
			b.get(x.name, x.kind, min(b.about, lastTime))
		}
	}
	for _, what := range strings.Split("found,put true,put false,put ErrArg,mark true,mark false,swept", ",") {
		if count[what] < 100 {
			t.Error("seldom:", what, count[what])
		}
	}
}

// event is a set that was put, and when.
type event struct {
	set       api.Set
	rank, now int
}

// watch is a cache whose time goes on, with what was put last into each of its places that was not refused.
type watch struct {
	t        *testing.T
	c        *rrcache.Cache
	now      int
	last     map[string]event
	versions map[int]api.Set
}

// put puts a set, and holds what becomes of it against what is known.
func (w *watch) put(p spec) {
	w.t.Helper()
	p.now = w.now
	place := strings.ToLower(p.name) + p.kind
	old, known := w.c.Get(named(p.name), p.set().Type, w.now)
	done := p.put(w.c)
	x, found := w.c.Get(named(p.name), p.set().Type, w.now)
	switch {
	case done == "true":
		w.last[place] = event{p.set(), p.rank, w.now}
		if known && old.Rank > p.rank || !found || x.Rank != p.rank {
			w.t.Errorf("%v took the place of %v: %v", p, old, x)
		}
	case entryText(x, found) != entryText(old, known):
		w.t.Errorf("%s of %v: %v was %v", done, p, x, old)
	}
}

// get holds what is told against what was put.
func (w *watch) get(n, kind string) {
	w.t.Helper()
	x, found := w.c.Get(named(n), must(data.TypeOf(kind)), w.now)
	if !found {
		return
	}
	e := w.last[strings.ToLower(n)+kind]
	age := w.now - e.now
	if !sameSet(x.Set, e.set) || x.Rank != e.rank || x.Set.TTL < 1 || age >= e.set.TTL || age >= api.MaxTTL || age+x.Set.TTL > min(e.set.TTL, api.MaxTTL) {
		w.t.Errorf("at %d: %v, put: %v", w.now, x, e)
	}
	old, known := w.versions[x.Version]
	if known && (!rrset.Same(old, x.Set) || strings.Join(old.Sigs, "|") != strings.Join(x.Set.Sigs, "|")) {
		w.t.Errorf("version %d is %v and %v", x.Version, old, x.Set)
	}
	w.versions[x.Version] = x.Set
}

// P16.3: while time goes on, what is told was put no longer ago than its TTL, nothing takes the place of a greater rank, one version is one set, and there are never too many.
func TestFollows(t *testing.T) {
	r := rand.New(rand.NewSource(163))
	for round := range 200 {
		most := 1 + round%8
		w := &watch{t, made(t, most), 0, map[string]event{}, map[int]api.Set{}}
		for range 200 {
			w.now += pick(r, 0, 0, 0, 1, 1, 2, 7)
			if r.Intn(50) == 0 {
				w.now += pick(r, 100, 604790, 604800)
			}
			if r.Intn(2) == 0 {
				w.put(drawnSpec(r, w.now))
			}
			w.get(drawnName(r), pick(r, "A", "A", "NS"))
			if r.Intn(30) == 0 {
				w.c.Sweep(w.now)
			}
			if w.c.Len() > most {
				t.Errorf("%d of %d", w.c.Len(), most)
			}
		}
	}
}
