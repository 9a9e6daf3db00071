package local_test

import (
	"math"
	"reflect"
	"slices"
	"strings"
	"testing"

	"guidepost/api"
	"guidepost/local"
	"guidepost/name"
)

// P14.2: the chapter's examples, with the zones in both orders.
func TestExamples(t *testing.T) {
	for _, list := range [][]api.Local{locals(example), backward(locals(example))} {
		answers(t, list,
			want{"a.b.s. A", "Data, a.b.s. 60 A 10.0.0.1"}, want{"a.b.s. TXT", "Empty"}, want{"b.s. A", "Empty"}, want{"c.s. A", "Nobody"}, want{"s. A", "Empty"},
			want{"y.t. A", "Pass"}, want{"x.t. TXT", "Empty"}, want{"x.t. A", "Data, x.t. 60 A 10.0.0.2"}, want{"t. A", "Empty"},
			want{"any.r. A", "Data, any.r. 60 A 10.0.0.3"}, want{"any.r. TXT", "Empty"}, want{"r. A", "Data, r. 60 A 10.0.0.3"},
			want{"x.no.s. A", "Refuse"}, want{"no.s. A", "Refuse"}, want{"else. A", "Pass"}, want{". A", "Pass"}, want{"dark. A", "Drop"}, want{"a.b.dark. ANY", "Drop"})
	}
}

// P14.2: which zone tells of a name: the nearest, as labels go, with its own letters.
func TestZone(t *testing.T) {
	list := locals("deny S.\nstatic b.s.\nrefuse a.A.b.s.\ntransparent T.t.\nredirect u.")
	for _, list := range [][]api.Local{list, backward(list)} {
		x := of(t, list)
		for n, want := range map[string]string{
			"s.": "S.", "S.": "S.", "a.s.": "S.", "B.s.": "b.s.", "b.S.": "b.s.", "a.b.s.": "b.s.", "a.a.b.s.": "a.A.b.s.", "A.a.B.S.": "a.A.b.s.", "x.y.a.a.b.s.": "a.A.b.s.", "b.a.b.s.": "b.s.", "bb.s.": "S.", "a.bb.s.": "S.",
			"t.": "none", "t.t.": "T.t.", "x.t.T.": "T.t.", "x.t.": "none", "u.": "u.", "x.U.": "u.", ".": "none", "v.": "none", "as.": "none", "s.v.": "none", `a\.s.`: "none", `x\001s.`: "none",
		} {
			for range 2 {
				if got := zoned(x, named(n)); got != want {
					t.Error(n, got, want)
				}
			}
		}
		if got := zoned(x, longest); got != "S." {
			t.Error(got)
		}
	}
	above := of(t, append(locals("static ."), list...))
	for n, want := range map[string]string{".": ".", "v.": ".", "t.": ".", "t.t.": "T.t.", "a.b.s.": "b.s."} {
		if got := zoned(above, named(n)); got != want {
			t.Error(n, got, want)
		}
	}
}

// P14.2: what is no name is of no zone, whatever zones there are.
func TestNoName(t *testing.T) {
	for kind := range zoneKinds() {
		if kind == 0 {
			continue
		}
		x := of(t, []api.Local{with(".", kind), with("s.", kind), with("a.s.", kind)})
		for _, n := range wrongNames() {
			for _, asked := range []int{api.TypeA, api.TypeANY, -1} {
				if what, sets := x.Answer(n, asked); what != local.Pass || len(sets) != 0 {
					t.Errorf("%q: %d, %v", n, what, sets)
				}
			}
			if z, found := x.Zone(n); z != "" || found {
				t.Errorf("%q: %q, %v", n, z, found)
			}
		}
	}
}

// full is a zone with several sets of several names.
const full = `
a.S. 60 A 10.0.0.1
b.s. 50 MX 1 m.s.
A.s. 40 TXT "t" "u"
a.s. 30 A 10.0.0.2
a.S. 60 AAAA 0:0:0:0:0:0:0:1
A.S. 70 A 10.0.0.1
x.y.z.s. 20 A 10.0.0.3
s. 10 NS n.S.
*.w.s. 10 A 10.0.0.4
`

// P14.2: Data of one type and of ANY, in the order of the records, with the letters of what is asked.
func TestData(t *testing.T) {
	for _, kind := range []string{"static", "transparent"} {
		answers(t, locals(kind+" s."+full),
			want{"a.s. A", "Data, a.s. 30 A 10.0.0.1 10.0.0.2"},
			want{"A.s. A", "Data, A.s. 30 A 10.0.0.1 10.0.0.2"},
			want{"a.S. TXT", `Data, a.S. 40 TXT "t" "u"`},
			want{"A.S. ANY", `Data, A.S. 30 A 10.0.0.1 10.0.0.2, A.S. 40 TXT "t" "u", A.S. 60 AAAA 0:0:0:0:0:0:0:1`},
			want{"B.s. MX", "Data, B.s. 50 MX 1 m.s."}, want{"b.s. ANY", "Data, b.s. 50 MX 1 m.s."},
			want{"X.y.Z.s. A", "Data, X.y.Z.s. 20 A 10.0.0.3"}, want{"S. NS", "Data, S. 10 NS n.S."}, want{"s. ANY", "Data, s. 10 NS n.S."},
			want{"*.W.s. A", "Data, *.W.s. 10 A 10.0.0.4"})
	}
	answers(t, locals("static s.\ns. 1 TXT \"b\"\ns. 2 ANY \\# 1 07\ns. 3 A 10.0.0.1"),
		want{"s. ANY", `Data, s. 1 TXT "b", s. 2 ANY \# 1 07, s. 3 A 10.0.0.1`}, want{"s. A", "Data, s. 3 A 10.0.0.1"}, want{"s. TYPE254", "Empty"})
}

// P14.2: of ANY many sets stand in the order of their first records, with those of other names between, whatever letters they have.
func TestOrder(t *testing.T) {
	var list []api.Record
	var types []int
	for i := range 200 {
		kind := 60000 + i*37%100
		list = append(list, api.Record{Name: must(name.Cased(named(string([]byte{'a' + byte(i%2)})+".s."), uint64(i))), Type: kind, Class: api.IN, Data: "d"})
		if i%2 == 0 && !slices.Contains(types, kind) {
			types = append(types, kind)
		}
	}
	for _, kind := range []int{api.LStatic, api.LTransparent} {
		var got []int
		_, sets := of(t, []api.Local{with("s.", kind, list...)}).Answer(named("A.s."), api.TypeANY)
		for _, s := range sets {
			got = append(got, s.Type)
		}
		if len(got) != 50 || !slices.Equal(got, types) {
			t.Error(got, types)
		}
	}
}

// P14.2: Empty of a name with other sets, of one above a name with sets, and of the zone's own; of others Nobody, or Pass.
func TestNothing(t *testing.T) {
	for kind, absent := range map[string]string{"static": "Nobody", "transparent": "Pass"} {
		answers(t, locals(kind+" s."+full),
			want{"a.s. MX", "Empty"}, want{"A.S. NS", "Empty"}, want{"b.s. A", "Empty"}, want{"s. A", "Empty"}, want{"a.s. CNAME", "Empty"}, want{"a.s. RRSIG", "Empty"}, want{"a.s. OPT", "Empty"},
			want{"z.s. A", "Empty"}, want{"Y.Z.s. A", "Empty"}, want{"y.z.s. ANY", "Empty"}, want{"W.s. ANY", "Empty"}, want{"w.s. A", "Empty"},
			want{"c.s. A", absent}, want{"c.s. ANY", absent}, want{"a.a.s. A", absent}, want{"a.b.s. ANY", absent}, want{"w.x.y.z.s. A", absent}, want{"x.z.s. A", absent}, want{"xx.y.z.s. A", absent}, want{"x.y.s. A", absent}, want{"q.w.s. A", absent}, want{"aa.s. A", absent}, want{`a\.s.s. A`, absent})
		answers(t, locals(kind+" a.s."), want{"a.s. A", "Empty"}, want{"A.S. ANY", "Empty"}, want{"b.a.s. A", absent}, want{"s. A", "Pass"}, want{"b.s. A", "Pass"})
	}
}

// P14.2: names that come ahead of all sets, behind all, and between them, in zones of one set and of many.
func TestBetween(t *testing.T) {
	answers(t, locals("static s.\nm.s. 1 A 10.0.0.1"), want{"a.s. A", "Nobody"}, want{"z.s. A", "Nobody"}, want{"l.m.s. A", "Nobody"}, want{"M.s. A", "Data, M.s. 1 A 10.0.0.1"}, want{"ma.s. A", "Nobody"}, want{"s. A", "Empty"})
	answers(t, locals("static s.\nz.s. 1 A 10.0.0.1\nm.m.s. 1 A 10.0.0.2\nb.s. 1 A 10.0.0.3\nB.m.m.s. 1 A 10.0.0.4\ns. 1 A 10.0.0.5"),
		want{"a.s. A", "Nobody"}, want{"b.s. A", "Data, b.s. 1 A 10.0.0.3"}, want{"c.s. A", "Nobody"}, want{"m.s. A", "Empty"}, want{"l.m.s. A", "Nobody"}, want{"m.m.s. A", "Data, m.m.s. 1 A 10.0.0.2"}, want{"a.m.m.s. A", "Nobody"}, want{"b.m.m.s. A", "Data, b.m.m.s. 1 A 10.0.0.4"}, want{"n.m.s. A", "Nobody"}, want{"z.s. A", "Data, z.s. 1 A 10.0.0.1"}, want{"zz.s. A", "Nobody"}, want{"S. A", "Data, S. 1 A 10.0.0.5"})
}

// P14.2: LRedirect tells its sets of all names at and below its own, with the letters of what is asked.
func TestRedirect(t *testing.T) {
	answers(t, locals("redirect R.\nr. 60 A 10.0.0.1\nR. 50 TXT \"t\"\nR. 40 A 10.0.0.2"),
		want{"r. A", "Data, r. 40 A 10.0.0.1 10.0.0.2"}, want{"R. TXT", `Data, R. 50 TXT "t"`}, want{"a.R. A", "Data, a.R. 40 A 10.0.0.1 10.0.0.2"}, want{"A.b.c.r. TXT", `Data, A.b.c.r. 50 TXT "t"`},
		want{"x.r. ANY", `Data, x.r. 40 A 10.0.0.1 10.0.0.2, x.r. 50 TXT "t"`}, want{"r. MX", "Empty"}, want{"x.r. MX", "Empty"}, want{"*.r. A", "Data, *.r. 40 A 10.0.0.1 10.0.0.2"}, want{". A", "Pass"}, want{"ar. A", "Pass"})
	answers(t, locals("redirect r."), want{"r. A", "Empty"}, want{"x.r. ANY", "Empty"}, want{"y. A", "Pass"})
	x := of(t, locals("redirect s.\ns. 60 A 10.0.0.1"))
	if what, sets := x.Answer(longest, api.TypeA); what != local.Data || len(sets) != 1 || sets[0].Name != longest {
		t.Error(what, sets)
	}
}

// P14.2: a kind that is no type has no sets, and LDeny and LRefuse don't ask for it.
func TestNoType(t *testing.T) {
	x := of(t, locals(example))
	for _, kind := range []int{-1, 65536, 65537, 65536 + 255, -255, 1<<32 + 1, math.MaxInt, math.MinInt} {
		for n, want := range map[string]string{"a.b.s.": "Empty", "b.s.": "Empty", "c.s.": "Nobody", "x.t.": "Empty", "y.t.": "Pass", "any.r.": "Empty", "no.s.": "Refuse", "dark.": "Drop", "else.": "Pass"} {
			if got := answered(x, named(n), kind); got != want {
				t.Error(n, kind, got)
			}
		}
	}
}

// P14.2: with each but Data no sets; with Data some.
func TestSetsWithDataAlone(t *testing.T) {
	x := of(t, locals(example))
	for _, n := range []string{".", "s.", "a.b.s.", "b.s.", "c.s.", "no.s.", "q.no.s.", "t.", "x.t.", "y.t.", "r.", "a.r.", "dark.", "else."} {
		for _, kind := range []int{api.TypeA, api.TypeTXT, api.TypeANY} {
			if what, sets := x.Answer(named(n), kind); (what == local.Data) != (len(sets) > 0) {
				t.Error(n, kind, what, sets)
			}
		}
	}
}

// P14.1, P3: what was handed in is not changed, nor what stands behind it, and not kept.
func TestNothingIsKept(t *testing.T) {
	all := locals("static s." + full + "redirect r.\nr. 1 A 10.0.0.1\nr. 1 TXT \"t\"\ntransparent t.\nt. 1 A 10.0.0.2\ndeny d.")
	list := copied(all)
	was := copied(list)
	list[0].Records = list[0].Records[:7]
	x, y := of(t, list[:3]), of(t, list[:3])
	list[0].Records = list[0].Records[:9]
	if !reflect.DeepEqual(list, was) {
		t.Error(list)
	}
	asks := []want{{"a.s. ANY", ""}, {"b.s. MX", ""}, {"w.s. A", "Nobody"}, {"s. NS", "Empty"}, {"x.r. ANY", ""}, {"t. A", ""}, {"x.t. A", "Pass"}, {"d. A", "Pass"}, {"u. A", "Pass"}}
	before := asked(x, asks)
	for i := range list {
		for j := range list[i].Records {
			list[i].Records[j] = record("u. 9 A 10.9.9.9")
		}
		list[i] = api.Local{Name: named("u."), Kind: api.LDeny}
	}
	if got := asked(x, asks); !slices.Equal(got, before) || !slices.Equal(asked(y, asks), before) {
		t.Error(got, before)
	}
	for i, w := range asks {
		if w.answer != "" && before[i] != w.answer || w.answer == "" && !strings.HasPrefix(before[i], "Data, ") {
			t.Error(w.ask, before[i])
		}
	}
}

// asked is all that is answered.
func asked(x *local.Locals, asks []want) []string {
	var list []string
	for _, w := range asks {
		n, kind, _ := strings.Cut(w.ask, " ")
		list = append(list, answered(x, named(n), kindOf(kind)))
	}
	return list
}

// P3: an answer is new memory, spare room too, and no two lists of it share any: whoever writes into it changes nothing else.
func TestAnswersAreNew(t *testing.T) {
	x := of(t, locals("static s."+full+"redirect r.\nr. 1 A 10.0.0.1\nr. 1 A 10.0.0.2\nr. 1 TXT \"t\"\ntransparent t.\nt. 1 A 10.0.0.2\nt. 1 TXT \"t\""))
	for _, n := range []string{"a.s.", "s.", "r.", "x.r.", "t."} {
		was := answered(x, named(n), api.TypeANY)
		for range 3 {
			_, sets := x.Answer(named(n), api.TypeANY)
			_, again := x.Answer(named(n), api.TypeANY)
			for i := range sets {
				scribble(sets[i].Data)
				scribble(sets[i].Sigs)
				for j := range sets {
					if j > i && slices.Contains(sets[j].Data, "scribbled") {
						t.Error(n, sets)
					}
				}
			}
			all := sets[:cap(sets)]
			for i := range all {
				all[i] = api.Set{Name: "scribbled"}
			}
			if len(again) != len(sets) || slices.ContainsFunc(again, func(s api.Set) bool { return !name.Right(s.Name) || slices.Contains(s.Data, "scribbled") }) {
				t.Error(n, again)
			}
		}
		if got := answered(x, named(n), api.TypeANY); got != was {
			t.Error(n, got, was)
		}
	}
}

// scribble writes into all that a list has room for.
func scribble(list []string) {
	list = list[:cap(list)]
	for i := range list {
		list[i] = "scribbled"
	}
}
