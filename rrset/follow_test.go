package rrset_test

import (
	"math"
	"math/rand"
	"reflect"
	"slices"
	"strings"
	"testing"

	"guidepost/api"
	"guidepost/data"
	"guidepost/name"
	"guidepost/rrset"
)

// drawn is one of a list.
func drawn[T any](r *rand.Rand, list ...T) T { return list[r.Intn(len(list))] }

// drawnLetters is a text some of whose letters are great.
func drawnLetters(r *rand.Rand, s string) string {
	b := []byte(s)
	for i, c := range b {
		if 'a' <= c && c <= 'z' && r.Intn(2) == 0 {
			b[i] = c - 32
		}
	}
	return string(b)
}

// drawnName is one of few names, in any letters.
func drawnName(r *rand.Rand) string {
	return drawnLetters(r, drawn(r, root, x, www, named("a", "www", "x"), named("*", "x"), named("y")))
}

// drawnSig is a signature of this type.
func drawnSig(t *testing.T, r *rand.Rand, covered int) string {
	return dataOf(t, api.Sig{Covered: covered, Labels: r.Intn(3), Signer: drawnName(r), Sign: drawn(r, "a", "b")})
}

// drawnData are right data of a type, few of them, so that many are alike.
func drawnData(t *testing.T, r *rand.Rand, kind int) string {
	switch kind {
	case api.TypeA:
		return address(r.Intn(5))
	case api.TypeNS, api.TypeNSEC:
		return drawnName(r)
	case api.TypeMX:
		return drawn(r, "\x00\x01", "\x00\x02") + drawnName(r)
	case api.TypeRRSIG:
		return drawnSig(t, r, drawn(r, api.TypeA, api.TypeNS, api.TypeMX, api.TypeNSEC, api.TypeRRSIG, api.TypeOPT, other))
	}
	return drawn(r, "", "a", "A", "ab")
}

func drawnKind(r *rand.Rand) int {
	return drawn(r, api.TypeA, api.TypeNS, api.TypeMX, api.TypeNSEC, other)
}

// drawnRecord is a record that now and then is not right.
func drawnRecord(t *testing.T, r *rand.Rand) api.Record {
	kind := drawn(r, drawnKind(r), api.TypeRRSIG, api.TypeOPT)
	z := api.Record{Name: drawnName(r), Type: kind, Class: drawn(r, 1, 1, 1, 3), TTL: drawn(r, r.Intn(100), r.Intn(whole), half-1, half), Data: drawnData(t, r, kind)}
	switch r.Intn(20) {
	case 0:
		z.Name = drawn(r, wrongNames()...)
	case 1:
		z.Type = drawn(r, -1, 65536, math.MinInt, math.MaxInt)
	case 2:
		z.Class = drawn(r, -1, 65536, math.MinInt, math.MaxInt)
	case 3:
		z.TTL = drawn(r, -1, whole, math.MinInt, math.MaxInt)
	case 4:
		z.Data = drawn(r, "\x00", "\x05abc", "\xff\xff\xff")
	}
	return z
}

// drawnSet is a right set.
func drawnSet(t *testing.T, r *rand.Rand) api.Set {
	s := api.Set{Name: drawnName(r), Type: drawnKind(r), Class: drawn(r, 1, 3), TTL: drawn(r, 0, half-1, r.Intn(half))}
	for range 1 + r.Intn(6) {
		d := drawnData(t, r, s.Type)
		same := func(o string) bool { return data.Lower(s.Type, o) == data.Lower(s.Type, d) }
		if !slices.ContainsFunc(s.Data, same) {
			s.Data = append(s.Data, d)
		}
	}
	for range r.Intn(4) {
		if d := drawnSig(t, r, s.Type); !slices.Contains(s.Sigs, d) {
			s.Sigs = append(s.Sigs, d)
		}
	}
	return s
}

// slowSets are Sets, as the document tells them, without a map: of each record its whole set is looked for again.
func slowSets(l []api.Record) []api.Set {
	right := slices.DeleteFunc(slices.Clone(l), func(z api.Record) bool {
		return !name.Right(z.Name) || z.Type == api.TypeOPT || z.Class < 0 || z.Class > 65535 || z.TTL < 0 || z.TTL > whole-1 || !data.Right(z.Type, z.Data)
	})
	var sets []api.Set
	for i, z := range right {
		of := func(o api.Record) bool {
			return small(o.Name) == small(z.Name) && o.Type == z.Type && o.Class == z.Class
		}
		if z.Type == api.TypeRRSIG || slices.ContainsFunc(right[:i], of) {
			continue
		}
		s := api.Set{Name: z.Name, Type: z.Type, Class: z.Class, TTL: half - 1}
		for _, o := range right[i:] {
			same := func(d string) bool { return data.Lower(z.Type, d) == data.Lower(z.Type, o.Data) }
			if of(o) && o.TTL < half {
				s.TTL = min(s.TTL, o.TTL)
			} else if of(o) {
				s.TTL = 0
			}
			if of(o) && !slices.ContainsFunc(s.Data, same) {
				s.Data = append(s.Data, o.Data)
			}
		}
		for _, o := range right {
			signs := small(o.Name) == small(z.Name) && o.Type == api.TypeRRSIG && o.Class == z.Class
			if signs && int(o.Data[0])<<8|int(o.Data[1]) == z.Type && !slices.Contains(s.Sigs, o.Data) {
				s.Sigs = append(s.Sigs, o.Data)
			}
		}
		sets = append(sets, s)
	}
	return sets
}

// P8.1: drawn records make the sets that a slow reading of the document makes of them, and these are right.
func TestSetsDrawn(t *testing.T) {
	r := rand.New(rand.NewSource(81))
	for range 3000 {
		var l []api.Record
		for range r.Intn(40) {
			l = append(l, drawnRecord(t, r))
		}
		got := rrset.Sets(l)
		if want := slowSets(l); !alike(got, want) {
			t.Fatalf("%+v: %+v, want %+v", l, got, want)
		}
		for _, s := range got {
			if !rrset.Right(s) {
				t.Fatalf("%+v: %+v is not right", l, s)
			}
		}
	}
}

// P8.5: Sets of Records is the set, of one and of several; of a Sig that stands twice one is left.
func TestSetsOfRecords(t *testing.T) {
	r := rand.New(rand.NewSource(85))
	for range 2000 {
		s := drawnSet(t, r)
		if got := rrset.Sets(rrset.Records(s)); !alike(got, []api.Set{s}) {
			t.Fatalf("%+v of %+v", got, s)
		}
		o := drawnSet(t, r)
		o.Name = named("another") // no set's name
		if got := rrset.Sets(slices.Concat(rrset.Records(s), rrset.Records(o))); !alike(got, []api.Set{s, o}) {
			t.Fatalf("%+v of %+v, %+v", got, s, o)
		}
		twice := s
		twice.Sigs = slices.Concat(s.Sigs, s.Sigs)
		if got := rrset.Sets(rrset.Records(twice)); !alike(got, []api.Set{s}) {
			t.Fatalf("%+v of %+v", got, twice)
		}
	}
	full := set(x, api.TypeA, half-1, addresses(200)...)
	full.Sigs = sigsOf(t, api.TypeA, 200)
	if got := rrset.Sets(rrset.Records(full)); !alike(got, []api.Set{full}) {
		t.Errorf("%d sets of a full one", len(got))
	}
}

// othersLetters is the set with other letters in its name and its Data's, another order, another TTL.
func othersLetters(r *rand.Rand, s api.Set) api.Set {
	o := s
	o.Name, o.TTL, o.Data = drawnLetters(r, small(s.Name)), r.Intn(half), nil
	for _, i := range r.Perm(len(s.Data)) {
		d := s.Data[i]
		if s.Type == api.TypeNS || s.Type == api.TypeMX {
			d = drawnLetters(r, small(d))
		}
		o.Data = append(o.Data, d)
	}
	return o
}

// P8.5: the order of Data, letters in names, and the TTL of a set change nothing of what is signed; anything else does.
func TestSignedFollows(t *testing.T) {
	r := rand.New(rand.NewSource(86))
	for range 3000 {
		s := drawnSet(t, r)
		g := api.Sig{Covered: s.Type, Labels: r.Intn(3), TTL: r.Intn(whole), Signer: drawnName(r), Sign: "a"}
		o, h := othersLetters(r, s), g
		h.Signer = drawnLetters(r, small(g.Signer))
		text, e := rrset.Signed(s, g)
		again, f := rrset.Signed(o, h)
		if text != again || e != f || !rrset.Same(s, o) {
			t.Fatalf("%+v: %q %v; %+v: %q %v", s, text, e, o, again, f)
		}
		if e != api.OK {
			continue
		}
		o.Class ^= 1
		if again, _ := rrset.Signed(o, h); again == text {
			t.Fatalf("%+v: another class", s)
		}
		o.Class, o.Data = s.Class, o.Data[1:]
		if again, _ := rrset.Signed(o, h); again == text {
			t.Fatalf("%+v: fewer Data", s)
		}
	}
}

// P8.5: a good signature is one in its own time, and at no time outside of it.
func TestCheckFollows(t *testing.T) {
	r, by := rand.New(rand.NewSource(87)), rsaSigner(1)
	for range 60 {
		s := ordinary(t, by)
		last := 1 + drawn(r, 0, 1, r.Intn(1000), r.Intn(half-2), half-2)
		s.g.Begin = drawn(r, 0, whole-1, r.Intn(whole))
		s.g.End = (s.g.Begin + last) % whole
		c := s.trial(t)
		for _, since := range []int{0, 1, last - 1, last, last + 1, half - 1, half, half + 1, last + half - 1, last + half, last + half + 1, whole - 1, r.Intn(whole), r.Intn(last + 1)} {
			want := api.OK
			if since%whole > last {
				want = api.ErrTime
			}
			c.now = (s.g.Begin + since) % whole
			if got := c.check(); got != want {
				t.Fatalf("from %d to %d, at %d: %d", s.g.Begin, s.g.End, c.now, got)
			}
		}
	}
}

// roomy is a list with spare room, and something in it, behind it.
func roomy(list ...string) []string {
	return append(slices.Clone(list), "behind", "all")[:len(list)]
}

// P3, P4: nothing that is handed in changes, nor what stands behind it; the same answers come again, whatever is done with the first ones.
func TestNothingIsShared(t *testing.T) {
	sigs := sigsOf(t, api.TypeNS, 2)
	s := api.Set{Name: named("WWW", "x"), Type: api.TypeNS, Class: 1, TTL: 7, Data: roomy(named("c"), named("B"), named("a")), Sigs: roomy(sigs...)}
	l := append(rrset.Records(s), record(x, 1, 1, address(1)), record(x, 1, 1, address(1)))
	room := append(slices.Clone(l), record(root, 1, 9, address(9)))
	kept := slices.Clone(room)
	first := rrset.Sets(room[:len(l)])
	for i := range first {
		_ = append(first[i].Data, "more")
		_ = append(first[i].Sigs, "more")
	}
	again := rrset.Sets(room[:len(l)])
	if !reflect.DeepEqual(first, again) || !slices.Equal(room, kept) {
		t.Errorf("%+v, then %+v", first, again)
	}
	for i := range first {
		clear(first[i].Data)
		clear(first[i].Sigs)
	}
	if third := rrset.Sets(room[:len(l)]); !reflect.DeepEqual(third, again) || !slices.Equal(room, kept) {
		t.Errorf("%+v, then %+v", again, third)
	}
	clear(rrset.Records(s))
	rrset.Right(s)
	rrset.Same(s, s)
	rrset.Signed(s, api.Sig{Covered: api.TypeNS, Signer: x, Sign: "a"})
	rrset.Check(s, sigs[0], x, "\x01\x00\x03\x08a", 7)
	rrset.Wild(s, api.Sig{})
	if !slices.Equal(s.Data[:5], []string{named("c"), named("B"), named("a"), "behind", "all"}) || !slices.Equal(s.Sigs[:4], append(sigs, "behind", "all")) {
		t.Errorf("%q %q", s.Data[:5], s.Sigs[:4])
	}
}

// P1: whatever comes, each call ends, and none panics.
func TestWhateverComes(t *testing.T) {
	r := rand.New(rand.NewSource(88))
	number := func() int {
		return drawn(r, math.MinInt, -1, 0, 1, 2, 8, 13, 41, 46, 255, 256, 65535, 65536, half, whole, math.MaxInt)
	}
	text := func() string {
		return drawn(r, "", "\x00", "*", x, www, longest, "\x01*\x00", sigOf(t, 1, 1), "\x01\x00\x03\x08a", "\x01\x00\x03\x0da", strings.Repeat("\xff", 3000), address(r.Intn(3)))
	}
	texts := func() []string {
		var list []string
		for range r.Intn(4) {
			list = append(list, text())
		}
		return list
	}
	for range 20000 {
		s := api.Set{Name: text(), Type: number(), Class: number(), TTL: number(), Data: texts(), Sigs: texts()}
		g := api.Sig{Covered: number(), Alg: number(), Labels: number(), TTL: number(), End: number(), Begin: number(), Tag: number(), Signer: text(), Sign: text()}
		if list := rrset.Records(s); (len(list) > 0) != rrset.Right(s) || rrset.Same(s, s) != rrset.Right(s) {
			t.Fatalf("%+v: %+v", s, list)
		}
		if got, e := rrset.Signed(s, g); (e == api.OK) != (got != "") || e != api.OK && e != api.ErrData {
			t.Fatalf("%+v, %+v: %q %v", s, g, got, e)
		}
		if got, ok := rrset.Wild(s, g); ok != (got != "") {
			t.Fatalf("%+v, %+v: %q %v", s, g, got, ok)
		}
		if e := rrset.Check(s, text(), text(), text(), number()); e == api.OK {
			t.Fatalf("%+v: a good signature", s)
		}
	}
}
