package denial_test

import (
	"testing"

	"guidepost/api"
	"guidepost/denial"
)

const (
	none   = denial.None
	proved = denial.Proved
	optOut = denial.OptOut
)

// exampleZone is the zone that RFC 4035 and RFC 5155 prove by.
func exampleZone() []owned {
	return []owned{
		own("example", kindNS, kindSOA, kindMX, kindKEY), own("a.example", kindNS, kindDS), own("ai.example", kindA, kindAAAA),
		own("b.example", kindNS), own("ns1.example", kindA), own("ns2.example", kindA), own("*.w.example", kindMX),
		own("x.w.example", kindMX), own("x.y.w.example", kindMX), own("xx.example", kindA, kindAAAA),
	}
}

// P9.3, P9.4, P9.5: the chapter's examples.
func TestNsecExamples(t *testing.T) {
	l := []api.Set{nsec(x, dot("b.x"), kindSOA, kindNS), nsec(dot("b.x"), x, kindA)}
	wanted(t, "the examples", l, x,
		askName("a.x", proved), askName("b.x", none), askName("c.b.x", proved),
		askType("b.x", kindTXT, proved), askType("b.x", kindA, none), askType("a.x", kindA, none),
		askWild("a.x", "x", proved))
}

// P9.3, P9.4, P9.5: what RFC 4035 (appendix B) proves by NSEC: by the whole chain, and by just the sets that it names.
func TestNsecRfc(t *testing.T) {
	l := linked(exampleZone())
	apex := dot("example")
	wanted(t, "RFC 4035", l, apex,
		askName("ml.example", proved), askType("ns1.example", kindMX, proved), askCut("b.example", proved), askCut("a.example", none),
		askWild("a.z.w.example", "w.example", proved), askType("a.z.w.example", kindAAAA, proved), askType("example", kindDS, none),
		askType("y.w.example", kindA, proved), askName("y.w.example", none), askName("mc.b.example", none), askName("a.z.w.example", none))
	wanted(t, "name error", []api.Set{nsec(dot("b.example"), dot("ns1.example"), kindNS), nsec(apex, dot("a.example"), kindNS, kindSOA)}, apex, askName("ml.example", proved))
	wanted(t, "no data", []api.Set{nsec(dot("ns1.example"), dot("ns2.example"), kindA)}, apex, askType("ns1.example", kindMX, proved), askType("ns1.example", kindA, none))
	wanted(t, "wildcard", []api.Set{nsec(dot("x.y.w.example"), dot("xx.example"), kindMX)}, apex, askWild("a.z.w.example", "w.example", proved), askName("a.z.w.example", none))
	wanted(t, "wildcard, no data", []api.Set{nsec(dot("x.y.w.example"), dot("xx.example"), kindMX), nsec(dot("*.w.example"), dot("x.w.example"), kindMX)}, apex,
		askType("a.z.w.example", kindAAAA, proved), askType("a.z.w.example", kindMX, none))
}

// P9.3: the gap of the last NSEC goes round by the end, where names outside of the zone are no names of it.
func TestNsecLast(t *testing.T) {
	l := []api.Set{nsec(dot("m.x"), x, kindA), nsec(x, dot("m.x"), kindNS, kindSOA)}
	wanted(t, "last", l, x, askName("z.x", proved), askName("n.m.x", proved), askName("m.x", none), askName("x", none), askName("a.x", proved),
		askName("z", none), askName("", none), askName("a.y", none), askName("ax", none))
	wanted(t, "alone", l[:1], x, askName("z.x", none), askWild("z.x", "x", proved), askWild("a.x", "x", none))
	one := []api.Set{nsec(x, x, kindNS, kindSOA)}
	wanted(t, "a zone of one name", one, x, askName("a.x", proved), askName("z.a.x", proved), askName("x", none), askType("x", kindA, proved), askType("x", kindNS, none))
	wanted(t, "a root of one name", []api.Set{nsec(root, root, kindNS, kindSOA)}, root, askName("x", proved), askName("a.x", proved), askName("", none))
	// A Next that is no name of the zone is a name all the same.
	wanted(t, "a Next outside", []api.Set{nsec(x, dot("y"), kindNS, kindSOA)}, x, askName("a.x", proved), askName("x", none))
}

// P9.3: what is below a cut or a DNAME is not denied by their NSECs; what is beside them is; at an apex NS is no cut.
func TestNsecPassedOn(t *testing.T) {
	for _, c := range []struct {
		types []int
		on    int // what is proved of names under it
	}{
		{[]int{kindA}, proved}, {[]int{kindNS}, none}, {[]int{kindNS, kindDS}, none}, {[]int{kindNS, kindSOA}, proved}, {[]int{kindSOA}, proved},
		{[]int{kindDNAME}, none}, {[]int{kindDNAME, kindA}, none}, {[]int{kindDNAME, kindSOA, kindNS}, none}, {[]int{kindDNAME, kindNS}, none}, {nil, proved},
	} {
		l := []api.Set{nsec(x, dot("c.x"), kindNS, kindSOA), nsec(dot("C.x"), x, c.types...)}
		wanted(t, "below", l, x, askName("a.c.x", c.on), askName("b.a.C.x", c.on), askWild("a.c.x", "c.x", c.on), askName("d.x", proved), askName("cc.x", proved), askWild("d.x", "x", proved), askName("c.x", none))
		// A name between that is under it, so that its Next is, too.
		deep := []api.Set{nsec(dot("c.x"), dot("z.b.c.x"), c.types...)}
		wanted(t, "between", deep, x, askType("b.c.x", kindA, c.on), askWild("b.c.x", "c.x", none), askName("b.c.x", none))
	}
	dname := []api.Set{nsec(x, x, kindDNAME, kindSOA, kindNS)}
	wanted(t, "DNAME at the apex", dname, x, askName("a.x", none), askType("a.x", kindA, none), askWild("a.x", "x", none), askType("x", kindA, proved))
}

// P9.3, P9.4, P9.5: a Next that is under the name: it is there, with nothing but names below it.
func TestNsecNextUnder(t *testing.T) {
	l := []api.Set{nsec(x, dot("b.a.W.x"), kindNS, kindSOA), nsec(dot("b.a.w.x"), x, kindA)}
	for _, n := range []string{"w.x", "W.X", "a.w.x"} {
		wanted(t, "between", l, x, askName(n, none), askType(n, kindA, proved), askType(n, kindDS, proved), askType(n, kindCNAME, proved), askWild(n, "x", none), askCut(n, none))
	}
	wanted(t, "beside", l, x, askName("a.a.w.x", proved), askName("c.w.x", proved), askName("v.x", proved), askName("c.b.a.w.x", proved), askWild("v.x", "x", proved), askWild("a.a.w.x", "a.w.x", proved))
	// By the first one that covers, though another one would tell otherwise.
	to, past := nsec(x, dot("b.w.x"), kindNS, kindSOA), nsec(x, dot("z.x"), kindNS, kindSOA)
	wanted(t, "the first one is under it", []api.Set{to, past}, x, askName("w.x", none), askType("w.x", kindA, proved))
	wanted(t, "the second one is under it", []api.Set{past, to}, x, askName("w.x", proved), askType("w.x", kindA, none))
	wanted(t, "Wild takes any one", []api.Set{to, past}, x, askWild("w.x", "x", proved))
	wanted(t, "Wild takes any one", []api.Set{past, to}, x, askWild("w.x", "x", proved))
}

// P9.3, P9.4: the wildcard's own NSEC: it denies no name that the wildcard makes, but the types that it lacks.
func TestNsecWildcard(t *testing.T) {
	l := []api.Set{nsec(x, dot("*.x"), kindNS, kindSOA), nsec(dot("*.x"), dot("m.x"), kindTXT), nsec(dot("m.x"), x, kindA)}
	wanted(t, "a wildcard", l, x, askName("a.x", none), askName("z.x", none), askName("b.a.x", none), askName("*.x", none), askName("a.m.x", proved), askName("a.*.x", proved),
		askType("a.x", kindA, proved), askType("a.x", kindTXT, none), askType("z.x", kindA, proved), askType("b.a.x", kindMX, proved), askType("*.x", kindA, proved), askType("*.x", kindTXT, none),
		askType("a.m.x", kindTXT, none), askWild("a.x", "x", proved), askWild("z.x", "x", proved), askWild("b.a.x", "x", proved), askWild("m.x", "x", none))
	for _, c := range []struct {
		types []int
		kind  int
		want  int
	}{
		{[]int{kindCNAME}, kindA, none}, {[]int{kindNS}, kindA, none}, {[]int{kindNS}, kindDS, proved}, {[]int{kindNS, kindDS}, kindDS, none}, {nil, kindA, proved}, {[]int{kindSOA}, kindDS, none}, {[]int{kindSOA, kindNS}, kindA, proved},
	} {
		l := []api.Set{nsec(dot("*.x"), x, c.types...)}
		wanted(t, "types of a wildcard", l, x, askType("a.x", c.kind, c.want))
	}
	// The first one that is of the wildcard counts.
	first, second := nsec(dot("*.X"), dot("m.x"), kindTXT), nsec(dot("*.x"), dot("m.x"), kindA)
	wanted(t, "the first wildcard", []api.Set{first, second}, x, askType("a.x", kindA, proved), askType("a.x", kindTXT, none))
	wanted(t, "the first wildcard", []api.Set{second, first}, x, askType("a.x", kindA, none), askType("a.x", kindTXT, proved))
	wanted(t, "no wildcard", []api.Set{nsec(x, dot("m.x"), kindNS, kindSOA)}, x, askType("a.x", kindA, none))
}

// P9.3: the encloser is the longer one of what the name has in common with the NSEC's name and with its Next.
func TestNsecEncloser(t *testing.T) {
	by := func(n, next string) api.Set { return nsec(dot(n), dot(next), kindA) }
	apex := nsec(x, dot("*.x"), kindNS, kindSOA) // covers no wildcard
	owner := []api.Set{by("a.b.x", "c.x"), apex, by("b.x", "a.b.x")}
	wanted(t, "by the name", owner, x, askName("m.b.x", proved), askName("bb.x", none), askWild("m.b.x", "b.x", proved), askWild("m.b.x", "x", none), askWild("m.B.x", "B.x", proved))
	next := []api.Set{by("a.x", "m.b.x"), apex}
	wanted(t, "by the Next", next, x, askName("c.b.x", proved), askName("aa.x", none), askWild("c.b.x", "b.x", proved), askWild("c.b.x", "x", none), askWild("z.c.b.x", "c.b.x", proved))
	wanted(t, "not covered", next, x, askName("z.b.x", none), askWild("z.b.x", "b.x", none))
	// The wildcard of the encloser is asked, not that of a name further up or down.
	only := []api.Set{by("d.b.x", "f.b.x")}
	wanted(t, "its wildcard", append(only, by("b.x", "a.b.x")), x, askName("e.b.x", proved))
	wanted(t, "another wildcard", append(only, by("x", "a.x")), x, askName("e.b.x", none))
	wanted(t, "no wildcard", only, x, askName("e.b.x", none), askWild("e.b.x", "b.x", proved), askWild("e.b.x", "x", none))
}

// P9.3, P9.4, P9.5: names of 255 bytes, and wildcards that are as long.
func TestNsecLongest(t *testing.T) {
	n, above := longest()
	deeper := "\x01a" + above // 255 bytes
	l := []api.Set{nsec(x, above, kindNS, kindSOA), nsec(above, deeper, kindA), nsec(deeper, x, kindA)}
	for _, q := range []asked{
		{"Name", n, 0, "", proved}, {"Type", n, kindA, "", none}, {"Wild", n, 0, above, proved}, {"Cut", n, 0, "", none},
		{"Name", deeper, 0, "", none}, {"Type", deeper, kindTXT, "", proved}, {"Type", above, kindA, "", none}, {"Name", above, 0, "", none},
		{"Name", "\x01*" + above, 0, "", proved},
		{"Wild", "\x01*" + n, 0, n, none}, {"Wild", n, 0, n, none}, {"Wild", n, 0, x, none}, {"Name", "\x01*" + n, 0, "", none},
	} {
		wanted(t, "longest", l, x, q)
	}
	wild := "\x01*" + above
	wanted(t, "a wildcard as long", []api.Set{nsec(wild, x, kindA)}, x, asked{"Type", n, kindTXT, "", proved}, asked{"Type", n, kindA, "", none}, asked{"Name", n, 0, "", none})
	// A name without room for its wildcard is the encloser of none but longer ones; its own proofs go on.
	full := []api.Set{nsec(n, x, kindA), nsec(x, n, kindNS, kindSOA)}
	wanted(t, "no room", full, x, asked{"Name", deeper, 0, "", proved}, asked{"Name", n, 0, "", none}, asked{"Type", above, kindA, "", proved}, asked{"Name", above, 0, "", none})
}

// P9.4: what a name's own NSEC proves of types, by the first one of that name, in any letters.
func TestNsecType(t *testing.T) {
	for _, c := range []struct {
		n     string
		types []int
		kind  int
		want  int
	}{
		{"b.x", []int{kindA, kindMX}, kindTXT, proved}, {"b.x", []int{kindA, kindMX}, kindA, none}, {"b.x", []int{kindA, kindMX}, kindMX, none}, {"b.x", nil, kindA, proved},
		{"b.x", []int{kindCNAME}, kindA, none}, {"b.x", []int{kindCNAME}, kindCNAME, none}, {"b.x", []int{kindCNAME}, kindDS, none}, {"b.x", []int{kindA}, kindCNAME, proved},
		// A cut: of DS the zone above speaks, of all else the one below.
		{"b.x", []int{kindNS}, kindDS, proved}, {"b.x", []int{kindNS}, kindA, none}, {"b.x", []int{kindNS}, kindNS, none}, {"b.x", []int{kindNS, kindDS}, kindDS, none}, {"b.x", []int{kindNS, kindDS}, kindTXT, none}, {"b.x", []int{kindNS}, kindSOA, none}, {"b.x", []int{kindNS}, kindCNAME, none},
		{"b.x", []int{kindA}, kindDS, proved}, {"b.x", []int{kindA, kindDS}, kindDS, none},
		// The apex.
		{"x", []int{kindNS, kindSOA}, kindDS, none}, {"x", []int{kindSOA}, kindDS, none}, {"x", []int{kindNS, kindSOA}, kindA, proved}, {"x", []int{kindNS, kindSOA}, kindSOA, none}, {"x", []int{kindNS, kindSOA}, kindNS, none}, {"x", []int{kindNS, kindSOA, kindDS}, kindDS, none}, {"x", []int{kindNS, kindSOA, kindCNAME}, kindA, none},
		// Types of the greatest and least numbers.
		{"b.x", []int{kindA}, 0, proved}, {"b.x", []int{0}, 0, none}, {"b.x", []int{kindA}, 65535, proved}, {"b.x", []int{65535}, 65535, none}, {"b.x", []int{kindA}, 257, proved}, {"b.x", []int{257}, kindA, proved},
		// No type.
		{"b.x", []int{kindA}, -1, none}, {"b.x", []int{kindA}, 65536, none}, {"b.x", []int{kindA}, 65536 + kindTXT, none}, {"b.x", nil, -1, none},
	} {
		other := nsec(dot("B.x"), dot("c.x"), kindA, kindMX, kindTXT, kindCNAME)
		l := []api.Set{nsec(dot("a.x"), dot("c.x"), kindTXT), nsec(dot(c.n), dot("c.x"), c.types...), other}
		wanted(t, "types", l, x, askType(c.n, c.kind, c.want))
		if c.n == "b.x" {
			wanted(t, "types in other letters", l, dot("X"), askType("B.X", c.kind, c.want))
		}
	}
	wanted(t, "between, no type", []api.Set{nsec(x, dot("a.b.x"), kindNS, kindSOA)}, x, askType("b.x", 65535, proved), askType("b.x", 0, proved), askType("b.x", -1, none), askType("b.x", 65536, none))
}

// P9.4: DS of the root: there is no zone above to ask.
func TestNsecRoot(t *testing.T) {
	l := []api.Set{nsec(root, x, kindNS, kindSOA), nsec(x, root, kindNS)}
	wanted(t, "the root", l, root, askType("", kindDS, proved), askType("", kindA, proved), askType("", kindNS, none), askType("x", kindDS, proved), askType("x", kindA, none), askCut("x", proved), askCut("", none), askName("a", proved), askName("z", proved), askName("a.x", none))
	wanted(t, "the root with DS", []api.Set{nsec(root, x, kindNS, kindSOA, kindDS)}, root, askType("", kindDS, none))
	wanted(t, "the root with CNAME", []api.Set{nsec(root, x, kindSOA, kindCNAME)}, root, askType("", kindDS, none))
	wanted(t, "the root below an apex", l, x, askType("", kindDS, none), askName("", none), askCut("", none))
}

// P9.5: Wild asks where the names stand to each other, in any letters.
func TestNsecWild(t *testing.T) {
	l := linked([]owned{own("x", kindNS, kindSOA), own("b.x", kindA), own("d.b.x", kindA), own("*.x", kindA)})
	wanted(t, "wild", l, x,
		askWild("a.x", "x", proved), askWild("A.X", "x", proved), askWild("z.a.x", "x", proved), askWild("z.a.x", "A.X", proved), askWild("y.b.x", "b.x", proved), askWild("y.b.x", "x", none), askWild("z.y.b.x", "b.x", proved),
		askWild("z.y.b.x", "y.b.x", proved), askWild("a.x", "a.x", none), askWild("x", "x", none), askWild("a.x", "b.x", none), askWild("a.x", "", none), askWild("a.y", "y", none), askWild("b.x", "x", none), askWild("*.x", "x", none), askWild("d.b.x", "b.x", none), askWild("", "", none),
		asked{"Wild", dot("a.x"), 0, "x.", none}, asked{"Wild", "a.x.", 0, x, none})
	wanted(t, "wild of a lower apex", l, dot("b.x"), askWild("y.b.x", "b.x", proved), askWild("a.x", "x", none), askWild("y.b.x", "x", none))
}

// P9.5: Cut: NS, and neither DS nor SOA, of the first NSEC of that name; never at the apex.
func TestNsecCut(t *testing.T) {
	for _, c := range []struct {
		types []int
		want  int
	}{
		{[]int{kindNS}, proved}, {[]int{kindNS, kindA}, proved}, {[]int{kindNS, kindDS}, none}, {[]int{kindNS, kindSOA}, none}, {[]int{kindNS, kindSOA, kindDS}, none}, {[]int{kindA}, none}, {nil, none}, {[]int{kindDS}, none}, {[]int{kindNS, kindCNAME}, proved}, {[]int{kindNS, kindDNAME}, proved},
	} {
		l := []api.Set{nsec(dot("a.x"), x, kindNS), nsec(dot("b.X"), x, c.types...), nsec(dot("b.x"), x, kindNS)}
		wanted(t, "cut", l, x, askCut("b.x", c.want), askCut("B.x", c.want), askCut("c.x", none), askCut("a.b.x", none), askCut("x", none), askCut("", none))
		wanted(t, "cut at its own apex", l, dot("b.x"), askCut("b.x", none))
	}
	twice := []api.Set{nsec(dot("b.x"), x, kindNS, kindDS), nsec(dot("b.x"), x, kindNS)}
	wanted(t, "the first", twice, x, askCut("b.x", none))
	wanted(t, "the first", []api.Set{twice[1], twice[0]}, x, askCut("b.x", proved))
	wanted(t, "a wildcard is not asked", []api.Set{nsec(dot("*.x"), x, kindNS)}, x, askCut("a.x", none), askCut("*.x", proved))
	wanted(t, "an apex with NS alone", []api.Set{nsec(x, x, kindNS)}, x, askCut("x", none))
}
