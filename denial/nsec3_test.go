package denial_test

import (
	"strings"
	"testing"

	"guidepost/api"
	"guidepost/digest"
)

// P9.3, P9.4, P9.5: what RFC 5155 (appendix B) proves by NSEC3, with opt-out and without.
func TestNsec3Rfc(t *testing.T) {
	apex := dot("example")
	var zone []owned
	for _, o := range exampleZone() {
		if o.n != dot("b.example") { // left out
			zone = append(zone, o)
		}
	}
	for flags, worth := range []int{proved, optOut} {
		l := hashLinked(zone, apex, "\xaa\xbb\xcc\xdd", 12, flags)
		cut := none
		if flags == 1 {
			cut = optOut
		}
		wanted(t, "RFC 5155", l, apex,
			askName("a.c.x.w.example", worth), askType("ns1.example", kindMX, proved), askType("y.w.example", kindA, proved), askType("mc.c.example", kindDS, cut), askType("c.example", kindDS, cut), askCut("c.example", cut), askCut("b.example", cut),
			askWild("a.z.w.example", "w.example", worth), askType("a.z.w.example", kindAAAA, worth), askType("a.z.w.example", kindMX, none), askType("example", kindDS, none), askName("b.example", worth),
			askName("a.example", none), askType("a.example", kindDS, none), askCut("a.example", none), askName("a.z.w.example", none), askName("w.example", none))
	}
}

// P9.3: each part of a proof that a name is not: no match, an encloser, next closer, the wildcard.
func TestNsec3Name(t *testing.T) {
	top := at(x, x, 0, kindNS, kindSOA)
	full := []api.Set{top, gap(dot("a.x"), x, 0), gap(dot("*.x"), x, 0)}
	wanted(t, "full", full, x, askName("a.x", proved), askName("A.X", proved), askName("b.a.x", proved), askName("b.x", none), askName("x", none), askName("", none), askName("a.y", none))
	for i := range full {
		without := append(append([]api.Set{}, full[:i]...), full[i+1:]...)
		wanted(t, "a part is missing", without, x, askName("a.x", none), askName("b.a.x", none))
	}
	wanted(t, "it matches", append(full, at(dot("a.x"), x, 0, kindA)), x, askName("a.x", none), askName("b.a.x", none))
	wanted(t, "it matches", append([]api.Set{at(dot("a.x"), x, 0, kindA)}, full...), x, askName("a.x", none))
	// With a nearer encloser the next closer one, and the wildcard, are others.
	near := append(full, at(dot("b.a.x"), x, 0, kindA))
	wanted(t, "the encloser that is nearest", near, x, askName("c.b.a.x", none), askName("c.a.x", proved), askName("b.a.x", none))
	near = append(near, gap(dot("c.b.a.x"), x, 0), gap(dot("*.b.a.x"), x, 0))
	wanted(t, "the encloser that is nearest", near, x, askName("c.b.a.x", proved), askName("d.c.b.a.x", proved), askName("d.b.a.x", none))
}

// P9.3: an encloser above the apex is none; the apex is one.
func TestNsec3Apex(t *testing.T) {
	apex := dot("b.x")
	h := func(n string, types ...int) api.Set {
		return nsec3(sum(dot(n), "", 0), apex, api.Nsec3{Alg: 1, Next: sum(dot(n), "", 0), Types: types})
	}
	above, own := h("x", kindNS, kindSOA), h("b.x", kindNS, kindSOA)
	wanted(t, "above", []api.Set{above}, apex, askName("a.b.x", none), askType("a.b.x", kindDS, none), askCut("a.b.x", none), askName("b.x", none), askType("b.x", kindA, none), askCut("b.x", none), askName("x", none), askWild("b.x", "x", none), askWild("a.b.x", "b.x", proved))
	wanted(t, "the apex", []api.Set{own}, apex, askName("a.b.x", proved), askName("c.a.b.x", proved), askName("b.x", none), askName("x", none), askType("b.x", kindA, proved), askType("x", kindA, none), askCut("b.x", none), askWild("a.b.x", "b.x", proved), askWild("a.b.x", "x", none), askWild("a.b.x", "a.b.x", none), askWild("b.x", "b.x", none))
	wanted(t, "the apex is not left out", []api.Set{nsec3(sum(x, "", 0), x, api.Nsec3{Alg: 1, Flags: 1, Next: sum(x, "", 0), Types: []int{kindNS}})}, x, askCut("x", none), askType("x", kindDS, proved), askCut("a.x", optOut))
	root3 := nsec3(sum(root, "", 0), root, api.Nsec3{Alg: 1, Next: sum(root, "", 0), Types: []int{kindNS, kindSOA}})
	wanted(t, "the root", []api.Set{root3}, root, askName("x", proved), askName("a.x", proved), askName("", none), askType("", kindA, proved), askType("", kindNS, none))
	// The set's own name is a hash under the root, not the root: LACKS does not let it speak of DS.
	wanted(t, "DS of the root", []api.Set{root3}, root, askType("", kindDS, none))
}

// P9.4: by a name's own NSEC3, the first one.
func TestNsec3Type(t *testing.T) {
	for _, c := range []struct {
		types []int
		kind  int
		want  int
	}{
		{[]int{kindA}, kindTXT, proved}, {[]int{kindA}, kindA, none}, {nil, kindA, proved}, {nil, kindDS, proved}, {[]int{kindCNAME}, kindA, none}, {[]int{kindCNAME}, kindCNAME, none}, {[]int{kindNS}, kindDS, proved}, {[]int{kindNS}, kindA, none}, {[]int{kindNS, kindDS}, kindDS, none},
		{[]int{kindNS, kindSOA}, kindDS, none}, {[]int{kindNS, kindSOA}, kindA, proved}, {[]int{kindSOA}, kindDS, none}, {[]int{kindA}, 0, proved}, {[]int{kindA}, 65535, proved}, {[]int{65535}, 65535, none}, {[]int{kindA}, -1, none}, {[]int{kindA}, 65536, none},
	} {
		for flags := range 2 {
			first, second := at(dot("b.x"), x, flags, c.types...), at(dot("b.x"), x, 0, kindCNAME)
			wanted(t, "types", []api.Set{gap(dot("b.x"), x, 1), first, second}, x, askType("b.x", c.kind, c.want), askType("B.X", c.kind, c.want))
		}
	}
}

// P9.4: a name that is not, by the wildcard that makes it, or as a cut that was left out.
func TestNsec3TypeElse(t *testing.T) {
	for flags, worth := range []int{proved, optOut} {
		ds := none
		if flags == 1 {
			ds = optOut
		}
		top, closer := at(x, x, 0, kindNS, kindSOA), gap(dot("a.x"), x, flags)
		wild := func(types ...int) api.Set { return at(dot("*.x"), x, 1-flags, types...) }
		wanted(t, "no wildcard", []api.Set{top, closer}, x, askType("a.x", kindA, none), askType("a.x", kindDS, ds), askType("b.a.x", kindDS, ds), askType("b.x", kindDS, none))
		wanted(t, "it lacks it", []api.Set{wild(kindTXT), top, closer}, x, askType("a.x", kindA, worth), askType("b.a.x", kindMX, worth), askType("a.x", kindTXT, none), askType("a.x", kindDS, worth), askType("b.x", kindA, none), askType("a.x", -1, none), askType("a.x", 65536, none))
		wanted(t, "CNAME", []api.Set{wild(kindCNAME), top, closer}, x, askType("a.x", kindA, none), askType("a.x", kindDS, ds))
		wanted(t, "a cut", []api.Set{wild(kindNS), top, closer}, x, askType("a.x", kindA, none), askType("a.x", kindDS, worth))
		wanted(t, "the first wildcard", []api.Set{wild(kindTXT), wild(kindA), top, closer}, x, askType("a.x", kindA, worth), askType("a.x", kindTXT, none))
		wanted(t, "no encloser", []api.Set{wild(kindTXT), closer}, x, askType("a.x", kindA, none), askType("a.x", kindDS, none))
		wanted(t, "no next closer", []api.Set{wild(kindTXT), top}, x, askType("a.x", kindA, none), askType("a.x", kindDS, none))
		wanted(t, "it matches", []api.Set{wild(kindTXT), top, closer, at(dot("a.x"), x, 0, kindA)}, x, askType("a.x", kindA, none), askType("a.x", kindMX, proved), askType("a.x", kindDS, proved), askType("b.a.x", kindMX, none))
	}
}

// P9.3, P9.4, P9.5: of several NSEC3s that cover, the first one's Flags count.
func TestNsec3First(t *testing.T) {
	top, wild, noWild := at(x, x, 0, kindNS, kindSOA), at(dot("*.x"), x, 0, kindTXT), gap(dot("*.x"), x, 1)
	plain, opt := gap(dot("a.x"), x, 0), gap(dot("a.x"), x, 1)
	wanted(t, "opt-out first", []api.Set{top, noWild, opt, plain}, x, askName("a.x", optOut), askWild("a.x", "x", optOut), askWild("b.a.x", "x", optOut), askCut("a.x", optOut), askType("a.x", kindDS, optOut))
	wanted(t, "opt-out second", []api.Set{top, noWild, plain, opt}, x, askName("a.x", proved), askWild("a.x", "x", proved), askWild("b.a.x", "x", proved), askCut("a.x", none), askType("a.x", kindDS, none))
	wanted(t, "opt-out first", []api.Set{top, wild, opt, plain}, x, askType("a.x", kindA, optOut))
	wanted(t, "opt-out second", []api.Set{top, wild, plain, opt}, x, askType("a.x", kindA, proved))
	// Flags of the wildcard's gap, of the encloser's and of the name's own NSEC3 do not count.
	wanted(t, "opt-out elsewhere", []api.Set{at(x, x, 1, kindNS, kindSOA), noWild, plain}, x, askName("a.x", proved), askType("x", kindA, proved))
}

// P9.5: Wild asks for what covers the name one label longer than the encloser, for no match.
func TestNsec3Wild(t *testing.T) {
	l := []api.Set{gap(dot("b.x"), x, 0), gap(dot("d.c.x"), x, 1)}
	wanted(t, "wild", l, x, askWild("b.x", "x", proved), askWild("B.X", "X", proved), askWild("a.b.x", "x", proved), askWild("z.a.b.x", "x", proved), askWild("a.b.x", "b.x", none), askWild("d.c.x", "c.x", optOut), askWild("e.d.c.x", "C.x", optOut), askWild("d.c.x", "x", none),
		askWild("b.x", "b.x", none), askWild("x", "x", none), askWild("b.x", "", none), askWild("b.x", "c.x", none), askWild("b.y", "y", none), askWild("a.x", "x", none), asked{"Wild", dot("b.x"), 0, "x.", none}, asked{"Wild", "b.x.", 0, x, none})
	wanted(t, "a match covers nothing of itself", []api.Set{at(dot("b.x"), x, 0)}, x, askWild("b.x", "x", none))
	long, above := longest()
	wanted(t, "longest", []api.Set{gap(long, x, 0), at(above, x, 0), gap("\x01*"+above, x, 0)}, x, asked{"Wild", long, 0, above, proved}, asked{"Name", long, 0, "", proved}, asked{"Wild", "\x01a" + long, 0, long, none}, asked{"Wild", long, 0, x, none})
}

// P9.5: Cut: NS, and neither DS nor SOA; or a gap with opt-out where the name would be.
func TestNsec3Cut(t *testing.T) {
	for _, c := range []struct {
		types []int
		want  int
	}{
		{[]int{kindNS}, proved}, {[]int{kindNS, kindA}, proved}, {[]int{kindNS, kindDS}, none}, {[]int{kindNS, kindSOA}, none}, {[]int{kindA}, none}, {nil, none}, {[]int{kindDS}, none},
	} {
		l := []api.Set{at(x, x, 0, kindNS, kindSOA), gap(dot("b.x"), x, 1), at(dot("b.x"), x, 1, c.types...), at(dot("b.x"), x, 1, kindNS)}
		wanted(t, "cut", l, x, askCut("b.x", c.want), askCut("B.x", c.want), askCut("x", none), askCut("", none), askCut("c.x", none))
	}
	top := at(x, x, 0, kindNS, kindSOA)
	wanted(t, "left out", []api.Set{top, gap(dot("b.x"), x, 1)}, x, askCut("b.x", optOut), askCut("a.b.x", optOut), askCut("c.x", none))
	wanted(t, "not left out", []api.Set{top, gap(dot("b.x"), x, 0)}, x, askCut("b.x", none))
	wanted(t, "no encloser", []api.Set{gap(dot("b.x"), x, 1)}, x, askCut("b.x", none))
}

// P9.3: what covers: behind the first and before the second by bytes; where the second is not behind the first, all but what is from the second to the first.
func TestNsec3Covers(t *testing.T) {
	h := sum(dot("a.x"), "", 0)
	low, high := strings.Repeat("\x00", 20), strings.Repeat("\xff", 20)
	for _, c := range []struct {
		own, next string
		want      int
	}{
		{before(h), after(h), proved}, {low, high, proved}, {h, after(h), none}, {before(h), h, none}, {h, high, none}, {low, h, none}, {after(h), high, none}, {low, before(h), none},
		// Round by the end.
		{high, after(h), proved}, {before(h), low, proved}, {high, h, none}, {h, low, none}, {after(h), h, none}, {h, before(h), none}, {after(h), before(h), none}, {high, before(h), none}, {after(h), low, none},
		// One alone.
		{h, h, none}, {low, low, proved}, {high, high, proved}, {after(h), after(h), proved}, {before(h), before(h), proved},
		// Bytes, not numbers with signs: the first byte of h is below 128 or not.
		{string([]byte{h[0] &^ 128}) + low[1:], string([]byte{h[0] | 128}) + high[1:], proved},
	} {
		l := []api.Set{nsec3(c.own, x, api.Nsec3{Alg: 1, Next: c.next})}
		wanted(t, digest.Hex(c.own)+" to "+digest.Hex(c.next)+" of "+digest.Hex(h), l, x, askWild("a.x", "x", c.want))
	}
}
