package denial_test

import (
	"math"
	"strings"
	"testing"

	"guidepost/api"
	"guidepost/data"
	"guidepost/digest"
)

// changed is a set that is made otherwise.
func changed(s api.Set, change func(*api.Set)) api.Set {
	s.Data = append([]string{}, s.Data...)
	change(&s)
	return s
}

// notRight are ways to make a set one that does not count, of NSEC or of NSEC3.
func notRight(more string) []func(*api.Set) {
	sig := func(covered int) string {
		d, _ := data.OfSig(api.Sig{Covered: covered, Signer: x, Sign: "s"})
		return d
	}
	return []func(*api.Set){
		func(s *api.Set) { s.Class = 3 }, func(s *api.Set) { s.Class = 0 }, func(s *api.Set) { s.Class = 255 }, func(s *api.Set) { s.Class = 65537 }, func(s *api.Set) { s.Class = -1 },
		func(s *api.Set) { s.TTL = -1 }, func(s *api.Set) { s.TTL = math.MaxInt32 + 1 },
		func(s *api.Set) { s.Data = nil }, func(s *api.Set) { s.Data[0] = "" }, func(s *api.Set) { s.Data[0] += "\x00" }, func(s *api.Set) { s.Data[0] = s.Data[0][:len(s.Data[0])-1] },
		func(s *api.Set) { s.Data = append(s.Data, s.Data[0]) }, func(s *api.Set) { s.Data = append(s.Data, more) }, func(s *api.Set) { s.Data = append([]string{more}, s.Data...) },
		func(s *api.Set) { s.Sigs = []string{"?"} }, func(s *api.Set) { s.Sigs = []string{sig(kindA)} }, func(s *api.Set) { s.Sigs = make([]string, 201) },
		func(s *api.Set) { s.Type = kindTXT }, func(s *api.Set) { s.Type = kindSIG }, func(s *api.Set) { s.Type = -1 }, func(s *api.Set) { s.Type = 65536 + s.Type }, func(s *api.Set) { s.Type = 65280 },
		func(s *api.Set) { s.Name = s.Name[:len(s.Name)-3] + dot("y") }, func(s *api.Set) { s.Name = s.Name[:len(s.Name)-3] + root }, func(s *api.Set) { s.Name = s.Name[:len(s.Name)-1] }, func(s *api.Set) { s.Name = "" },
	}
}

// P9.3, P9.4, P9.5: NSECs that are not right, of another class, not under the apex, or with two Data, do not count; nor do they stand in the way of those that do.
func TestNsecCounts(t *testing.T) {
	cut := nsec(dot("b.x"), x, kindNS)
	more := nsec(dot("b.x"), dot("c.x"), kindNS).Data[0]
	wanted(t, "it counts", []api.Set{cut}, x, askCut("b.x", proved))
	full := changed(cut, func(s *api.Set) {
		s.TTL, s.Name = math.MaxInt32, dot("B.X")
		d, _ := data.OfSig(api.Sig{Covered: kindNSEC, Signer: x, Sign: "s"})
		s.Sigs = []string{d, d}
	})
	wanted(t, "it counts", []api.Set{full}, x, askCut("b.x", proved))
	hashed := at(dot("b.x"), x, 0, kindNS)
	for i, change := range notRight(more) {
		bad := changed(nsec(dot("b.x"), x, kindA), change)
		wanted(t, "it does not count: "+string(rune('a'+i)), []api.Set{changed(cut, change)}, x, askCut("b.x", none), askType("b.x", kindDS, none), askName("c.x", none), askWild("c.x", "x", none))
		wanted(t, "not in the way of others: "+string(rune('a'+i)), []api.Set{bad, cut}, x, askCut("b.x", proved), askType("b.x", kindDS, proved))
		wanted(t, "not in the way of NSEC3s: "+string(rune('a'+i)), []api.Set{bad, hashed}, x, askCut("b.x", proved), askType("b.x", kindDS, proved))
	}
	wanted(t, "not under the apex", []api.Set{cut}, dot("a.x"), askCut("b.x", none), askCut("b.a.x", none), askName("b.a.x", none))
	wide := []api.Set{nsec(x, dot("b.x"), kindNS, kindSOA), cut}
	wanted(t, "above the apex", wide, dot("b.x"), askType("b.x", kindDS, proved), askName("a.b.x", none))
	wanted(t, "above the apex", wide[:1], dot("a.x"), askName("c.a.x", none), askWild("c.a.x", "a.x", none))
	for _, apex := range wrongNames() {
		wanted(t, "an apex that is no name", wide, apex, askCut("b.x", none), askName("a.x", none), askType("b.x", kindDS, none), askWild("a.x", "x", none))
	}
}

// P9.3, P9.4, P9.5: where there are NSECs, NSEC3s do not count.
func TestNsec3Beside(t *testing.T) {
	three := []api.Set{at(x, x, 0, kindNS, kindSOA), at(dot("b.x"), x, 0, kindNS), gap(dot("a.x"), x, 1), gap(dot("*.x"), x, 1)}
	questions := []asked{askName("a.x", optOut), askType("b.x", kindDS, proved), askType("a.x", kindDS, optOut), askWild("a.x", "x", optOut), askCut("b.x", proved), askCut("a.x", optOut)}
	wanted(t, "alone", three, x, questions...)
	for i := range questions {
		questions[i].want = none
	}
	beside := nsec(dot("q.x"), dot("qq.x"), kindA)
	wanted(t, "an NSEC behind", append(three, beside), x, questions...)
	wanted(t, "an NSEC ahead", append([]api.Set{beside}, three...), x, questions...)
	wanted(t, "by NSEC", append(three, nsec(dot("b.x"), x, kindNS, kindDS)), x, askCut("b.x", none), askCut("a.x", none), askType("b.x", kindTXT, none))
	outside := nsec(dot("q.y"), dot("z.y"), kindA)
	wanted(t, "an NSEC of elsewhere", append([]api.Set{outside}, three...), x, askName("a.x", optOut), askCut("b.x", proved))
}

// P9.3, P9.4, P9.5: NSEC3s count only of one kind of hash, below the apex, of known flags and few rounds.
func TestNsec3Counts(t *testing.T) {
	h := sum(dot("b.x"), "", 0)
	with := func(change func(*api.Nsec3)) api.Set {
		d := api.Nsec3{Alg: 1, Next: after(h), Types: []int{kindNS}}
		change(&d)
		return nsec3(h, x, d)
	}
	good := with(func(d *api.Nsec3) {})
	asks := func(want int) []asked { return []asked{askCut("b.x", want), askType("b.x", kindDS, want)} }
	wanted(t, "it counts", []api.Set{good}, x, asks(proved)...)
	wanted(t, "with opt-out it counts", []api.Set{with(func(d *api.Nsec3) { d.Flags = 1 })}, x, asks(proved)...)
	for i, change := range notRight(with(func(d *api.Nsec3) { d.Flags = 1 }).Data[0]) {
		bad := changed(with(func(d *api.Nsec3) { d.Types = nil }), change)
		wanted(t, "it does not count: "+string(rune('a'+i)), []api.Set{changed(good, change)}, x, asks(none)...)
		wanted(t, "not in the way: "+string(rune('a'+i)), []api.Set{bad, good}, x, asks(proved)...)
	}
	for _, change := range []func(*api.Nsec3){
		func(d *api.Nsec3) { d.Alg = 0 }, func(d *api.Nsec3) { d.Alg = 2 }, func(d *api.Nsec3) { d.Alg = 255 },
		func(d *api.Nsec3) { d.Flags = 2 }, func(d *api.Nsec3) { d.Flags = 3 }, func(d *api.Nsec3) { d.Flags = 128 }, func(d *api.Nsec3) { d.Flags = 255 },
		func(d *api.Nsec3) { d.Next = d.Next[:19] }, func(d *api.Nsec3) { d.Next += "\x00" }, func(d *api.Nsec3) { d.Next = "\x00" }, func(d *api.Nsec3) { d.Next = strings.Repeat("n", 255) },
	} {
		wanted(t, "data", []api.Set{with(change)}, x, asks(none)...)
		// It does not say how the others hash, either.
		spoilt := with(func(d *api.Nsec3) { d.Salt, d.Rounds = "salt", 7; change(d) })
		wanted(t, "data ahead", []api.Set{spoilt, good}, x, asks(proved)...)
	}
}

// P9.3, P9.4, P9.5: names of NSEC3s: a label that tells 20 bytes, right below the apex.
func TestNsec3Names(t *testing.T) {
	good := at(dot("b.x"), x, 0, kindNS)
	told := digest.Base32(sum(dot("b.x"), "", 0))
	under := func(label, apex string) api.Set {
		return changed(good, func(s *api.Set) { s.Name = string([]byte{byte(len(label))}) + label + apex })
	}
	for _, s := range []api.Set{under(strings.ToUpper(told), x), under(told, dot("X")), under(strings.ToUpper(told[:9])+told[9:], dot("X"))} {
		wanted(t, "great letters", []api.Set{s}, x, askCut("b.x", proved))
		wanted(t, "great letters in the apex", []api.Set{s}, dot("X"), askCut("b.x", proved), askCut("B.x", proved))
	}
	for _, s := range []api.Set{
		under(told[:31], x), under(told+"0", x), under(told+"00", x), under(told+strings.Repeat("0", 31), x), under(told[:31]+"w", x), under("-"+told[1:], x), under(told[:30], x), under(told[:31]+"=", x),
		under(told, dot("a.x")), under(told, dot("x.x")), under(told, dot("y")), under(told, root), changed(good, func(s *api.Set) { s.Name = x }), changed(good, func(s *api.Set) { s.Name = root }),
	} {
		wanted(t, "a name "+s.Name, []api.Set{s}, x, askCut("b.x", none), askType("b.x", kindDS, none), askWild("a.x", "x", none))
		wanted(t, "a name ahead "+s.Name, []api.Set{changed(s, func(s *api.Set) {
			s.Data = nsec3("", x, api.Nsec3{Alg: 1, Rounds: 3, Salt: "s", Next: strings.Repeat("n", 20)}).Data
		}), good}, x, askCut("b.x", proved))
	}
}

// P9.3, P9.4, P9.5: rounds up to 150; and of those that differ in rounds or salt the first one says which count.
func TestNsec3Rounds(t *testing.T) {
	by := func(n, salt string, rounds int, types ...int) api.Set {
		h := sum(dot(n), salt, rounds)
		return nsec3(h, x, api.Nsec3{Alg: 1, Rounds: rounds, Salt: salt, Next: after(h), Types: types})
	}
	for _, rounds := range []int{0, 1, 12, 149, 150, 151, 152, 256 + 1, 32768, 65535} {
		want := none
		if rounds <= 150 {
			want = proved
		}
		for _, salt := range []string{"", "s", strings.Repeat("\xff", 255)} {
			l := []api.Set{by("b.x", salt, rounds, kindNS)}
			wanted(t, "rounds", l, x, askCut("b.x", want), askType("b.x", kindDS, want), askType("b.x", kindA, none))
			if rounds > 150 {
				wanted(t, "too many ahead", append(l, by("b.x", "", 0, kindNS)), x, askCut("b.x", proved))
			}
		}
	}
	for _, other := range []api.Set{by("b.x", "s", 0, kindNS), by("b.x", "", 1, kindNS), by("b.x", "\x00", 0, kindNS), by("b.x", "s", 1, kindNS)} {
		first := by("a.x", "", 0, kindNS)
		wanted(t, "of another hash", []api.Set{first, other}, x, askCut("a.x", proved), askCut("b.x", none))
		wanted(t, "of another hash, first", []api.Set{other, first}, x, askCut("a.x", none), askCut("b.x", proved))
		wanted(t, "between", []api.Set{first, other, by("b.x", "", 0, kindNS)}, x, askCut("a.x", proved), askCut("b.x", proved))
	}
}
