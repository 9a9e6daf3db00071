package denial_test

import (
	"cmp"
	"crypto/sha1"
	"slices"
	"strings"
	"testing"

	"guidepost/api"
	"guidepost/data"
	"guidepost/denial"
	"guidepost/digest"
)

const (
	root = "\x00"
	x    = "\x01x\x00"
	ttl  = 300
)

// The types that most tests tell of.
const (
	kindA     = api.TypeA
	kindNS    = api.TypeNS
	kindCNAME = api.TypeCNAME
	kindSOA   = api.TypeSOA
	kindMX    = api.TypeMX
	kindTXT   = api.TypeTXT
	kindAAAA  = api.TypeAAAA
	kindDNAME = api.TypeDNAME
	kindDS    = api.TypeDS
	kindSIG   = api.TypeRRSIG
	kindNSEC  = api.TypeNSEC
	kindKEY   = api.TypeDNSKEY
)

// dot is the name of a text without anything to escape: "b.x" is 1 b 1 x 0.
func dot(text string) string {
	if text == "" {
		return root
	}
	n := ""
	for _, label := range strings.Split(text, ".") {
		n += string([]byte{byte(len(label))}) + label
	}
	return n + root
}

// longest is a name of 255 bytes under x., and the name of 253 bytes above it.
func longest() (n, above string) {
	wide := strings.Repeat("w", 63)
	above = dot(strings.Join([]string{wide, wide, wide, wide[:57], "x"}, "."))
	return "\x01n" + above, above
}

// wrongNames are no names.
func wrongNames() []string {
	long, _ := longest()
	return []string{"", "x", "\x01x", "\x02x\x00", "x.", "\x00\x00", "\x01x\x00\x00", "\x40" + strings.Repeat("a", 64) + "\x00", "\x01a" + long}
}

// set is a set with these data.
func set(n string, kind int, list ...string) api.Set {
	return api.Set{Name: n, Type: kind, Class: api.IN, TTL: ttl, Data: list}
}

// nsec is an NSEC.
func nsec(n, next string, types ...int) api.Set {
	slices.Sort(types)
	d, e := data.OfNsec(api.Nsec{Next: next, Types: types})
	if e != api.OK {
		panic("an NSEC that is none")
	}
	return set(n, api.TypeNSEC, d)
}

// sum is a name's hash, worked out by the library.
func sum(n, salt string, rounds int) string {
	text := []byte(small(n))
	for range rounds + 1 {
		all := sha1.Sum(append(slices.Clone(text), salt...))
		text = all[:]
	}
	return string(text)
}

// small is a name, or a label, in small letters. (No length of a label is a letter.)
func small(n string) string {
	b := []byte(n)
	for i, c := range b {
		if 'A' <= c && c <= 'Z' {
			b[i] = c + 'a' - 'A'
		}
	}
	return string(b)
}

// hashedName is the name of an NSEC3.
func hashedName(own, apex string) string {
	return "\x20" + digest.Base32(own) + apex
}

// nsec3 is an NSEC3 of the name that has this hash.
func nsec3(own, apex string, d api.Nsec3) api.Set {
	slices.Sort(d.Types)
	s, e := data.OfNsec3(d)
	if e != api.OK {
		panic("an NSEC3 that is none")
	}
	return set(hashedName(own, apex), api.TypeNSEC3, s)
}

// gap is an NSEC3 that covers a name's hash and hardly anything else.
func gap(n, apex string, flags int) api.Set {
	h := sum(n, "", 0)
	return nsec3(before(h), apex, api.Nsec3{Alg: 1, Flags: flags, Next: after(h)})
}

// at is the NSEC3 of a name, that covers hardly anything.
func at(n, apex string, flags int, types ...int) api.Set {
	h := sum(n, "", 0)
	return nsec3(h, apex, api.Nsec3{Alg: 1, Flags: flags, Next: after(h), Types: types})
}

// before and after are the hashes next to a hash.
func before(h string) string {
	b := []byte(h)
	for i := 19; i >= 0; i-- {
		b[i]--
		if b[i] != 255 {
			break
		}
	}
	return string(b)
}

func after(h string) string {
	b := []byte(h)
	for i := 19; i >= 0; i-- {
		b[i]++
		if b[i] != 0 {
			break
		}
	}
	return string(b)
}

// owned is a name of a zone and the types that it has.
type owned struct {
	n     string
	types []int
}

func own(text string, types ...int) owned { return owned{dot(text), types} }

// linked is the NSECs of a whole zone: of all names that have types.
func linked(zone []owned) []api.Set {
	list := slices.SortedFunc(slices.Values(zone), func(a, b owned) int { return slices.Compare(path(a.n), path(b.n)) })
	var l []api.Set
	for i, o := range list {
		l = append(l, nsec(o.n, list[(i+1)%len(list)].n, append([]int{kindSIG, kindNSEC}, o.types...)...))
	}
	return l
}

// hashLinked is the NSEC3s of a whole zone: of all names that have types, and of those between them and the apex.
func hashLinked(zone []owned, apex, salt string, rounds, flags int) []api.Set {
	all := map[string][]int{}
	for _, o := range zone {
		all[sum(o.n, salt, rounds)] = o.types
		for p := path(o.n); len(p) > len(path(apex)); p = p[:len(p)-1] {
			h := sum(wired(p), salt, rounds)
			all[h] = append([]int{}, all[h]...)
		}
	}
	var sums []string
	for h := range all {
		sums = append(sums, h)
	}
	slices.SortFunc(sums, cmp.Compare[string])
	var l []api.Set
	for i, h := range sums {
		l = append(l, nsec3(h, apex, api.Nsec3{Alg: 1, Flags: flags, Rounds: rounds, Salt: salt, Next: sums[(i+1)%len(sums)], Types: all[h]}))
	}
	return l
}

// asked is one call of a proof, and what it should answer.
type asked struct {
	call string // Name, Type, Wild, Cut
	n    string
	kind int
	from string // the encloser of Wild
	want int
}

func askName(n string, want int) asked           { return asked{"Name", dot(n), 0, "", want} }
func askType(n string, kind int, want int) asked { return asked{"Type", dot(n), kind, "", want} }
func askWild(n, from string, want int) asked     { return asked{"Wild", dot(n), 0, dot(from), want} }
func askCut(n string, want int) asked            { return asked{"Cut", dot(n), 0, "", want} }

// of is what the program answers.
func (q asked) of(l []api.Set, apex string) int {
	switch q.call {
	case "Name":
		return denial.Name(l, q.n, apex)
	case "Type":
		return denial.Type(l, q.n, q.kind, apex)
	case "Wild":
		return denial.Wild(l, q.n, q.from, apex)
	}
	return denial.Cut(l, q.n, apex)
}

// wanted asks all of them.
func wanted(t *testing.T, why string, l []api.Set, apex string, list ...asked) {
	t.Helper()
	for _, q := range list {
		if got := q.of(l, apex); got != q.want {
			t.Errorf("%s: %s %q %d %q: %d, want %d", why, q.call, q.n, q.kind, q.from, got, q.want)
		}
	}
}

// all is a proof of each kind of call.
func all(n string, kind int, from string) []asked {
	return []asked{{"Name", n, 0, "", 0}, {"Type", n, kind, "", 0}, {"Wild", n, 0, from, 0}, {"Cut", n, 0, "", 0}}
}
