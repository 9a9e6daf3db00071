package denial_test

import (
	"math"
	"math/rand"
	"slices"
	"strings"
	"testing"

	"guidepost/api"
	"guidepost/denial"
)

func pick[T any](r *rand.Rand, list ...T) T { return list[r.Intn(len(list))] }

// drawnCase is a text some of whose letters are great.
func drawnCase(r *rand.Rand, s string) string {
	b := []byte(s)
	for i, c := range b {
		if 'a' <= c && c <= 'z' && r.Intn(4) == 0 {
			b[i] = c - 32
		}
	}
	return string(b)
}

// drawnName is one of few names, so that many are alike, or under each other; in any letters.
func drawnName(r *rand.Rand) string {
	if r.Intn(2) == 0 {
		return drawnCase(r, dot(pick(r, "x", "a.x", "b.x", "*.x", "a.b.x", "*.b.x")))
	}
	n := pick(r, x, x, x, x, x, x, dot("y"), root)
	for range r.Intn(4) {
		n = "\x01" + pick(r, "a", "b", "c", "*") + n
	}
	return drawnCase(r, n)
}

func drawnTypes(r *rand.Rand) []int {
	var list []int
	for _, kind := range []int{kindA, kindNS, kindCNAME, kindSOA, kindTXT, kindDNAME, kindDS} {
		if r.Intn(4) == 0 {
			list = append(list, kind)
		}
	}
	return list
}

// spoilt is a set that now and then is not as it should be.
func spoilt(r *rand.Rand, s api.Set) api.Set {
	switch r.Intn(40) {
	case 0:
		s.Class = pick(r, 3, 0, 255)
	case 1:
		s.TTL = -1
	case 2:
		s.Data = nil
	case 3:
		s.Data = append(slices.Clone(s.Data), drawnNsec(r).Data[0])
	case 4:
		s.Type = pick(r, kindTXT, api.TypeNSEC, api.TypeNSEC3)
	case 5:
		s.Sigs = []string{"?"}
	}
	return s
}

func drawnNsec(r *rand.Rand) api.Set {
	return nsec(drawnName(r), drawnName(r), drawnTypes(r)...)
}

// drawnHash is a name's, or one next to it.
func drawnHash(r *rand.Rand, salt string, rounds int) string {
	h := sum(drawnName(r), salt, rounds)
	return pick(r, h, h, before(h), after(h))
}

func drawnNsec3(r *rand.Rand, apex string) api.Set {
	salt, rounds := pick(r, "", "", "", "", "", "s"), pick(r, 0, 0, 0, 0, 0, 0, 0, 1, 150, 151)
	d := api.Nsec3{Alg: 1, Flags: r.Intn(2), Rounds: rounds, Salt: salt, Next: drawnHash(r, salt, rounds), Types: drawnTypes(r)}
	switch r.Intn(40) {
	case 0:
		d.Alg = pick(r, 0, 2, 255)
	case 1:
		d.Flags = pick(r, 2, 3, 128, 255)
	case 2:
		d.Next = pick(r, d.Next[:19], d.Next+"\x00")
	}
	s := nsec3(drawnHash(r, salt, rounds), drawnCase(r, pick(r, apex, apex, apex, apex, apex, apex, apex, apex, apex, drawnName(r))), d)
	if r.Intn(40) == 0 {
		s.Name = pick(r, "\x1f"+s.Name[2:], "\x21\x30"+s.Name[1:], "\x20w"+s.Name[2:])
	}
	s.Name = drawnCase(r, s.Name)
	return s
}

// drawnAsk is a call.
func drawnAsk(r *rand.Rand) asked {
	return asked{pick(r, "Name", "Type", "Wild", "Cut"), drawnName(r), pick(r, kindA, kindNS, kindCNAME, kindSOA, kindTXT, kindDS), drawnName(r), 0}
}

// P9.3, P9.4, P9.5: each call of NSECs of any kind answers as the second reading does.
func TestNsecDrawn(t *testing.T) {
	drawnHeld(t, 93, func(r *rand.Rand, apex string) api.Set {
		if r.Intn(30) == 0 {
			return spoilt(r, drawnNsec3(r, apex))
		}
		return spoilt(r, drawnNsec(r))
	})
}

// P9.3, P9.4, P9.5: so do NSEC3s.
func TestNsec3Drawn(t *testing.T) {
	drawnHeld(t, 94, func(r *rand.Rand, apex string) api.Set {
		if r.Intn(200) == 0 {
			return spoilt(r, drawnNsec(r))
		}
		return spoilt(r, drawnNsec3(r, apex))
	})
}

// drawnHeld holds drawn sets against the second reading, and sees to it that all that may be answered is answered often.
func drawnHeld(t *testing.T, seed int64, drawn func(*rand.Rand, string) api.Set) {
	t.Helper()
	r := rand.New(rand.NewSource(seed))
	times := map[string]int{}
	for range 6000 {
		apex := drawnCase(r, pick(r, x, x, x, x, x, x, root, dot("a.x")))
		var l []api.Set
		for range r.Intn(12) {
			l = append(l, drawn(r, apex))
		}
		m := modelOf(l, apex)
		for range 12 {
			q := drawnAsk(r)
			got, want := q.of(l, apex), m.of(q)
			if got != want {
				t.Fatalf("%v, %q: %s %q %d %q: %d, want %d", l, apex, q.call, q.n, q.kind, q.from, got, want)
			}
			times[q.call+string(rune('0'+got))]++
		}
	}
	for _, call := range []string{"Name", "Type", "Wild", "Cut"} {
		if times[call+"0"] < 100 || times[call+"1"] < 100 || seed == 94 && times[call+"2"] < 100 {
			t.Errorf("%s is hardly tried: %v", call, times)
		}
	}
}

// P1: whatever it is given, every call answers; what is no name proves nothing.
func TestNothingPanics(t *testing.T) {
	long, above := longest()
	names := append(wrongNames(), root, x, dot("a.x"), dot("b.a.x"), long, above, strings.Repeat("\x01a", 127)+root, strings.Repeat("\xff", 300))
	kinds := []int{math.MinInt, -1, 0, kindA, kindDS, 65535, 65536, math.MaxInt}
	r := rand.New(rand.NewSource(95))
	lists := [][]api.Set{nil, {}, {{}}, {{Type: api.TypeNSEC, Class: 1, Data: []string{""}}}, {{Type: api.TypeNSEC3, Class: 1, Data: []string{""}}}}
	for _, n := range names {
		lists = append(lists, []api.Set{set(n, api.TypeNSEC, "?")}, []api.Set{set(n, api.TypeNSEC3, "?")}, []api.Set{nsec(n, x, kindA)}, []api.Set{{Name: n, Type: math.MinInt, Class: math.MaxInt, TTL: math.MinInt, Data: []string{n}, Sigs: []string{n}}})
		lists = append(lists, []api.Set{spoilt(r, drawnNsec3(r, x)), {Name: n, Type: api.TypeNSEC3, Class: 1, Data: []string{"\x01\x00\x00\x00\x00\x01a"}}})
	}
	for _, l := range lists {
		for _, n := range names {
			for _, apex := range names {
				for _, q := range all(n, pick(r, kinds...), pick(r, names...)) {
					got := q.of(l, apex)
					if wrong := wrongNames(); got != denial.None && (slices.Contains(wrong, n) || slices.Contains(wrong, apex)) {
						t.Errorf("%s of %q in %q: %d", q.call, n, apex, got)
					}
				}
			}
		}
	}
}

// P3, P4: sets that are handed in are not written into, and the same ones are answered the same.
func TestNothingWritten(t *testing.T) {
	r := rand.New(rand.NewSource(96))
	for range 300 {
		room := make([]api.Set, 8)
		for i := range room {
			room[i] = pick(r, drawnNsec(r), drawnNsec3(r, x), drawnNsec3(r, x))
		}
		l, kept := room[:5], deep(room)
		for range 8 {
			q := drawnAsk(r)
			if first := q.of(l, x); first != q.of(deep(l), x) || first != q.of(l, x) {
				t.Fatalf("%v, %v: not always the same", l, q)
			}
		}
		for i := range room {
			if !slices.Equal(room[i].Data, kept[i].Data) || room[i].Name != kept[i].Name || room[i].Type != kept[i].Type || room[i].TTL != kept[i].TTL {
				t.Fatalf("%v is now %v", kept[i], room[i])
			}
		}
	}
}

// deep is a list that shares nothing.
func deep(l []api.Set) []api.Set {
	l = slices.Clone(l)
	for i := range l {
		l[i].Data = slices.Clone(l[i].Data)
	}
	return l
}
