package table_test

import (
	"math/rand"
	"slices"
	"strconv"
	"testing"

	"guidepost/table"
)

// pair is a key with its value.
type pair[K comparable] struct {
	k K
	v int
}

// model is the slow reading of the document: a list, the one that was used last first.
type model[K comparable] struct {
	most int
	list []pair[K]
}

func (m *model[K]) place(k K) int {
	return slices.IndexFunc(m.list, func(p pair[K]) bool { return p.k == k })
}

func (m *model[K]) look(k K) (int, bool) {
	if i := m.place(k); i >= 0 {
		return m.list[i].v, true
	}
	return 0, false
}

func (m *model[K]) drop(k K) bool {
	i := m.place(k)
	if i >= 0 {
		m.list = slices.Delete(slices.Clone(m.list), i, i+1)
	}
	return i >= 0
}

func (m *model[K]) get(k K) (int, bool) {
	v, there := m.look(k)
	if there {
		m.put(k, v)
	}
	return v, there
}

func (m *model[K]) put(k K, v int) (gone K, went bool) {
	m.drop(k)
	m.list = slices.Insert(slices.Clone(m.list), 0, pair[K]{k, v})
	if len(m.list) > m.most {
		gone, went = m.list[m.most].k, true
		m.list = m.list[:m.most]
	}
	return gone, went
}

// both are a table and its model, and what has been done to them.
type both[K comparable] struct {
	t    *testing.T
	r    *rand.Rand
	x    *table.Table[K, int]
	m    model[K]
	keys []K
	done string
}

func (b *both[K]) wrong(what string, got, want any) {
	b.t.Helper()
	b.t.Fatalf("%T, most %d,%s: %s: %v, want %v", b.m, b.m.most, b.done, what, got, want)
}

// step does one drawn thing to both, and holds the answers against each other.
func (b *both[K]) step() {
	b.t.Helper()
	at := b.r.Intn(len(b.keys))
	k, v := b.keys[at], b.r.Intn(1000)
	note := func(what string) { b.done += " " + what + strconv.Itoa(at) }
	switch b.r.Intn(8) {
	case 0, 1, 2:
		note("put")
		gone, went := b.x.Put(k, v)
		if wantGone, wantWent := b.m.put(k, v); gone != wantGone || went != wantWent {
			b.wrong("Put", gone, wantGone)
		}
	case 3, 4:
		note("get")
		v, ok := b.x.Get(k)
		if want, there := b.m.get(k); v != want || ok != there {
			b.wrong("Get", v, want)
		}
	case 5:
		note("look")
		v, ok := b.x.Look(k)
		if want, there := b.m.look(k); v != want || ok != there {
			b.wrong("Look", v, want)
		}
	default:
		note("drop")
		if got, want := b.x.Drop(k), b.m.drop(k); got != want {
			b.wrong("Drop", got, want)
		}
	}
	b.same()
}

// same holds all that is there against each other.
func (b *both[K]) same() {
	b.t.Helper()
	if b.x.Len() != len(b.m.list) {
		b.wrong("Len", b.x.Len(), len(b.m.list))
	}
	var keys []K
	for _, p := range b.m.list {
		keys = append(keys, p.k)
	}
	if got := b.x.Keys(); !slices.Equal(got, keys) {
		b.wrong("Keys", got, keys)
	}
	var all []pair[K]
	for k, v := range b.x.All() {
		all = append(all, pair[K]{k, v})
	}
	if !slices.Equal(all, b.m.list) {
		b.wrong("All", all, b.m.list)
	}
}

// walk ranges over the table while drawn things are done to it, and over it again inside, and holds what is told against the slow reading.
func (b *both[K]) walk(depth int) {
	b.t.Helper()
	first := slices.Clone(b.m.list)
	at, stop := 0, b.r.Intn(8)
	skip := func() {
		for at < len(first) && b.m.place(first[at].k) < 0 {
			at++
		}
	}
	b.done += " ("
	for k, v := range b.x.All() {
		if skip(); at == len(first) {
			b.wrong("told", k, "nothing")
		}
		if now, _ := b.m.look(k); k != first[at].k || v != now {
			b.wrong("told", pair[K]{k, v}, pair[K]{first[at].k, now})
		}
		at++
		for range b.r.Intn(4) {
			b.step()
		}
		if depth > 0 && b.r.Intn(3) == 0 {
			b.walk(depth - 1)
		}
		if stop--; stop < 0 {
			at = len(first)
			break
		}
	}
	b.done += " )"
	if skip(); at < len(first) {
		b.wrong("told no more", "end", first[at].k)
	}
}

// held holds a table with such keys against the slow reading.
func held[K comparable](t *testing.T, keys ...K) {
	t.Helper()
	r := rand.New(rand.NewSource(111))
	for round := range 150 {
		most := 1 + round%7
		b := &both[K]{t: t, r: r, x: made[K, int](t, most), m: model[K]{most: most}, keys: keys}
		for range 40 {
			if b.step(); r.Intn(5) == 0 {
				b.walk(2)
			}
		}
	}
}

// P11.1, P11.2: drawn things done to tables whose keys are of several kinds.
func TestDrawn(t *testing.T) {
	type asked struct {
		name string
		kind int
	}
	type within struct {
		asked
		address [4]byte
	}
	t.Run("texts", func(t *testing.T) { held(t, "", "a", "b", "A", "\x00", "a\x00", "\xff", "ab") })
	t.Run("numbers", func(t *testing.T) { held(t, 0, 1, -1, 2, 255, 256, -9, 1<<62) })
	t.Run("bytes", func(t *testing.T) { held[uint8](t, 0, 1, 127, 128, 255, 254, 3, 4) })
	t.Run("floats", func(t *testing.T) { held(t, 0, 0.5, -0.5, 1e300, -1e300, 1, 2) })
	t.Run("bools", func(t *testing.T) { held(t, false, true) })
	t.Run("structs", func(t *testing.T) {
		held(t, asked{}, asked{"a", 1}, asked{"a", 2}, asked{"b", 1}, asked{"", 1}, asked{"a", 0}, asked{"b", 2})
	})
	t.Run("arrays", func(t *testing.T) {
		held(t, [3]int{}, [3]int{1}, [3]int{0, 1}, [3]int{0, 0, 1}, [3]int{1, 1}, [3]int{1, 0, 1}, [3]int{-1})
	})
	t.Run("structs of these", func(t *testing.T) {
		held(t, within{}, within{asked{"a", 1}, [4]byte{}}, within{asked{"a", 1}, [4]byte{1}}, within{asked{"b", 1}, [4]byte{1}}, within{asked{}, [4]byte{3: 1}}, within{asked{"", 2}, [4]byte{}})
	})
	t.Run("anything", func(t *testing.T) { held[any](t, nil, 0, "0", int8(0), [1]int{}, asked{}, false) })
}
