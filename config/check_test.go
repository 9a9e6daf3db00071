package config_test

import (
	"math"
	"slices"
	"strconv"
	"strings"
	"testing"

	"guidepost/api"
	"guidepost/config"
	"guidepost/name"
)

// P15.1: of nothing, of what is right in all its parts, and of as little as may be.
func TestCheck(t *testing.T) {
	for range 2 {
		if part, e := config.Check(api.Config{}); part != "roots" || e != api.ErrConf {
			t.Error(part, e)
		}
		taken(t, change{"all of it", func(*api.Config) {}})
	}
	taken(t, change{"as little as may be", func(c *api.Config) {
		*c = api.Config{Roots: []api.Addr{{}}, Sets: 1, Messages: 1, Servers: 1, Tasks: 1}
	}}, change{"empty lists", func(c *api.Config) {
		c.Rules, c.Locals, c.Upstreams, c.Anchors = []api.Rule{}, []api.Local{}, []api.Upstream{}, []api.Anchor{}
	}}, change{"lists that are nil", func(c *api.Config) {
		c.Rules, c.Locals, c.Upstreams, c.Anchors = nil, nil, nil, nil
	}})
}

// rooted is a configuration with these Roots.
func rooted(what string, list []api.Addr) change {
	return change{what, func(c *api.Config) { c.Roots = list }}
}

// P15.1: 1 to 20 Roots, each an address.
func TestRoots(t *testing.T) {
	for many := range 50 {
		what := strconv.Itoa(many) + " Roots"
		if many >= 1 && many <= 20 {
			taken(t, rooted(what, addrs(many)))
		} else {
			wrong(t, "roots", rooted(what, addrs(many)))
		}
	}
	wrong(t, "roots", rooted("nil", nil), rooted("empty", []api.Addr{}), rooted("very many", addrs(5000)))
	taken(t, rooted("one twice", []api.Addr{{Lo: 1}, {Lo: 1}}), rooted("noughts", make([]api.Addr, 20)))
	for _, a := range wrongAddrs() {
		for _, many := range []int{0, 1, 4, 19} {
			for at := range many + 1 {
				wrong(t, "roots", rooted("no address", slices.Insert(addrs(many), at, a)))
			}
		}
	}
}

// ruled is a configuration with one more rule.
func ruled(what string, a api.Addr, bits, action int) change {
	return change{what, func(c *api.Config) {
		c.Rules = append(c.Rules, api.Rule{Prefix: api.Prefix{Addr: a, Bits: bits}, Action: action})
	}}
}

// P15.1: Rules that acl.New takes and refuses.
func TestRules(t *testing.T) {
	ten := api.Addr{Lo: 10 << 24}
	taken(t, ruled("a longer prefix", ten, 9, api.Allow), ruled("a whole address", ten, 32, api.Refuse), ruled("one of V6", api.Addr{V6: true, Lo: 1}, 128, api.Deny),
		change{"one rule", func(c *api.Config) { c.Rules = c.Rules[:1] }})
	wrong(t, "rules", ruled("a prefix twice", ten, 8, api.Allow), ruled("the whole rule twice", ten, 8, api.Deny), ruled("all twice", api.Addr{}, 0, api.Refuse),
		ruled("bits behind the prefix", ten, 4, api.Allow), ruled("33 bits", ten, 33, api.Allow), ruled("bits below 0", api.Addr{}, -1, api.Allow), ruled("129 bits", api.Addr{V6: true}, 129, api.Allow), ruled("no address", api.Addr{Hi: 1}, 32, api.Allow),
		ruled("no Action", ten, 9, 0), ruled("Action 4", ten, 9, 4), ruled("Action -1", ten, 9, -1),
		change{"the first of them", func(c *api.Config) { c.Rules[0].Action = 0 }}, change{"the one of them", func(c *api.Config) { c.Rules = []api.Rule{{}} }})
}

// placed is a configuration with one more local zone.
func placed(what string, z api.Local) change {
	return change{what, func(c *api.Config) { c.Locals = append(c.Locals, z) }}
}

// P15.1: Locals that local.New takes and refuses.
func TestLocals(t *testing.T) {
	a := api.Record{Name: named("n."), Type: api.TypeA, Class: api.IN, Data: "\x0a\x00\x00\x01"}
	chained := api.Record{Name: named("n."), Type: api.TypeCNAME, Class: api.IN, Data: named("x.")}
	taken(t, placed("redirect", api.Local{Name: named("n."), Kind: api.LRedirect, Records: []api.Record{a}}), placed("below another", api.Local{Name: named("a.l."), Kind: api.LRefuse}), placed("the root", api.Local{Name: "\x00", Kind: api.LTransparent}),
		placed("200 records", api.Local{Name: named("n."), Kind: api.LStatic, Records: slices.Repeat([]api.Record{a}, 200)}))
	wrong(t, "locals", placed("nothing", api.Local{}), placed("no Kind", api.Local{Name: named("n.")}), placed("Kind 6", api.Local{Name: named("n."), Kind: 6}), placed("one name in other letters", api.Local{Name: named("L."), Kind: api.LDeny}),
		placed("records of LDeny", api.Local{Name: named("n."), Kind: api.LDeny, Records: []api.Record{a}}), placed("CNAME", api.Local{Name: named("n."), Kind: api.LStatic, Records: []api.Record{chained}}), placed("a record beside it", api.Local{Name: named("o."), Kind: api.LStatic, Records: []api.Record{a}}),
		placed("201 records", api.Local{Name: named("n."), Kind: api.LStatic, Records: slices.Repeat([]api.Record{a}, 201)}),
		change{"the first of them", func(c *api.Config) { c.Locals[0].Kind = 0 }}, change{"a record's class", func(c *api.Config) { c.Locals[0].Records[0].Class = 3 }})
	for _, n := range wrongNames() {
		wrong(t, "locals", placed("no name", api.Local{Name: n, Kind: api.LStatic}))
	}
}

// upstreamed are configurations with one more Upstream: the only one, and ahead of, between and behind others.
func upstreamed(what string, u api.Upstream) []change {
	list := []change{{what + ", alone", func(c *api.Config) { c.Upstreams = []api.Upstream{u} }}}
	for at := range len(right().Upstreams) + 1 {
		list = append(list, change{what + ", at " + strconv.Itoa(at), func(c *api.Config) { c.Upstreams = slices.Insert(c.Upstreams, at, u) }})
	}
	return list
}

// P15.1: an Upstream's Name and Servers.
func TestUpstreams(t *testing.T) {
	for _, n := range []string{named("c."), named("B."), named("a.b.a."), named("ba."), named("a.a."), named("a.b."), longest} {
		taken(t, upstreamed("a name", api.Upstream{Name: n, Servers: addrs(1)})...)
		taken(t, upstreamed("a name, Forward", api.Upstream{Name: n, Servers: addrs(1), Forward: true})...)
	}
	taken(t, change{"the root alone", func(c *api.Config) { c.Upstreams = upstreams(".") }})
	for _, n := range wrongNames() {
		wrong(t, "upstreams", upstreamed("no name", api.Upstream{Name: n, Servers: addrs(1)})...)
	}
	for many := range 50 {
		u := upstreamed(strconv.Itoa(many)+" Servers", api.Upstream{Name: named("c."), Servers: addrs(many)})
		if many >= 1 && many <= 20 {
			taken(t, u...)
		} else {
			wrong(t, "upstreams", u...)
		}
	}
	taken(t, upstreamed("a Server twice", api.Upstream{Name: named("c."), Servers: make([]api.Addr, 20)})...)
	for _, a := range wrongAddrs() {
		for _, many := range []int{0, 1, 4, 19} {
			for at := range many + 1 {
				wrong(t, "upstreams", upstreamed("no address", api.Upstream{Name: named("c."), Servers: slices.Insert(addrs(many), at, a)})...)
			}
		}
	}
}

// P15.1: no two Upstreams have one Name, in whatever letters.
func TestUpstreamTwice(t *testing.T) {
	for _, n := range []string{"a.", "A.", "b.a.", "B.a.", "b.A.", "B.A.", "."} {
		for _, forward := range []bool{false, true} {
			u := upstream(n, 9)
			u.Forward = forward
			for _, x := range upstreamed(n+" twice", u)[1:] {
				wrong(t, "upstreams", x)
			}
		}
	}
	wrong(t, "upstreams", change{"the last of many", func(c *api.Config) { c.Upstreams = upstreams("a. b. c. d. e. f. g. h. i. j. A.") }},
		change{"three of them", func(c *api.Config) { c.Upstreams = upstreams("a. A. a.") }}, change{"the longest", func(c *api.Config) {
			c.Upstreams = append(c.Upstreams, api.Upstream{Name: longest, Servers: addrs(1)}, api.Upstream{Name: must(name.Cased(longest, 1<<63)), Servers: addrs(2)})
		}}, change{"letters past a nought", func(c *api.Config) { c.Upstreams = upstreams(`a\000b. A\000B.`) }})
	taken(t, change{"bytes that are no letters", func(c *api.Config) { c.Upstreams = upstreams(`\064. \096. \091. \123. \193. \225.`) }})
}

// Many Upstreams, all of which may be, are asked in no long time; one of them is there twice.
func TestManyUpstreams(t *testing.T) {
	var list []api.Upstream
	for i := range 60000 {
		list = append(list, api.Upstream{Name: named("n" + strconv.Itoa(i) + ".s."), Servers: addrs(1)})
	}
	taken(t, change{"many", func(c *api.Config) { c.Upstreams = list }})
	wrong(t, "upstreams", change{"many and one", func(c *api.Config) { c.Upstreams = append(slices.Clip(list), upstream("N7.s.", 1)) }})
}

// anchored are configurations with one more Anchor: the only one, and ahead of, between and behind others.
func anchored(what string, a api.Anchor) []change {
	list := []change{{what + ", alone", func(c *api.Config) { c.Anchors = []api.Anchor{a} }}}
	for at := range len(right().Anchors) + 1 {
		list = append(list, change{what + ", at " + strconv.Itoa(at), func(c *api.Config) { c.Anchors = slices.Insert(c.Anchors, at, a) }})
	}
	return list
}

// P15.1: an Anchor's Name, which several may have.
func TestAnchorNames(t *testing.T) {
	for _, n := range []string{named("c."), named("x."), named("Y.X."), "\x00", longest} {
		for tag := range 2 {
			a := anchor(".", tag)
			a.Name = n
			taken(t, anchored("a name", a)...)
		}
	}
	taken(t, change{"one twice", func(c *api.Config) { c.Anchors = append(c.Anchors, c.Anchors...) }}, change{"many", func(c *api.Config) { c.Anchors = slices.Repeat(c.Anchors, 100) }})
	for _, n := range wrongNames() {
		a := anchor(".", 1)
		a.Name = n
		wrong(t, "anchors", anchored("no name", a)...)
	}
}

// trusting are configurations with one more Anchor that has this Ds.
func trusting(what string, d api.Ds) []change {
	return anchored(what, api.Anchor{Name: named("z."), Ds: d})
}

// P15.1: an Anchor's Tag and Alg, with each Kind.
func TestAnchorNumbers(t *testing.T) {
	for _, good := range []api.Ds{anchor(".", 0).Ds, anchor(".", 1).Ds} {
		for _, tag := range []int{math.MinInt, -65536, -65535, -1, 0, 1, 255, 256, 32768, 65534, 65535, 65536, 65537, 131071, 1 << 32, 1<<32 + 1, math.MaxInt} {
			d := good
			if d.Tag = tag; tag >= 0 && tag <= 65535 {
				taken(t, trusting("Tag "+strconv.Itoa(tag), d)...)
			} else {
				wrong(t, "anchors", trusting("Tag "+strconv.Itoa(tag), d)...)
			}
		}
		for _, alg := range []int{math.MinInt, -13, -8, -1, 0, 1, 2, 3, 4, 5, 6, 7, 8, 9, 10, 11, 12, 13, 14, 15, 16, 253, 255, 256 + 8, 256 + 13, 65536 + 8, 1<<32 + 13, math.MaxInt} {
			d := good
			if d.Alg = alg; alg == 8 || alg == 13 {
				taken(t, trusting("Alg "+strconv.Itoa(alg), d)...)
			} else {
				wrong(t, "anchors", trusting("Alg "+strconv.Itoa(alg), d)...)
			}
		}
	}
	wrong(t, "anchors", trusting("nothing", api.Ds{})...)
}

// P15.1: an Anchor's Kind, and as many bytes of Digest as it asks for, whatever they are.
func TestAnchorDigests(t *testing.T) {
	for _, kind := range []int{math.MinInt, -2, -1, 0, 1, 2, 3, 4, 20, 32, 255, 257, 258, 1<<32 + 1, 1<<32 + 2, math.MaxInt} {
		for _, size := range []int{0, 1, 19, 20, 21, 31, 32, 33, 40, 48, 64, 276, 288, 2000} {
			for _, alg := range []int{8, 13} {
				list := trusting("Kind "+strconv.Itoa(kind)+" of "+strconv.Itoa(size), api.Ds{Tag: 5, Alg: alg, Kind: kind, Digest: strings.Repeat("d", size)})
				if kind == 1 && size == 20 || kind == 2 && size == 32 {
					taken(t, list...)
				} else {
					wrong(t, "anchors", list...)
				}
			}
		}
	}
	for _, b := range []string{"\x00", "\xff", "\xc3"} {
		taken(t, trusting("any bytes", api.Ds{Alg: 8, Kind: 1, Digest: strings.Repeat(b, 20)})...)
		taken(t, trusting("any bytes", api.Ds{Alg: 8, Kind: 2, Digest: strings.Repeat(b, 32)})...)
	}
	wrong(t, "anchors", trusting("20 of two bytes", api.Ds{Alg: 8, Kind: 1, Digest: strings.Repeat("ä", 20)})...)
}

// P15.1: each number by itself, from 1 to 10000.
func TestNumbers(t *testing.T) {
	for what, at := range map[string]func(c *api.Config) *int{
		"Sets":     func(c *api.Config) *int { return &c.Sets },
		"Messages": func(c *api.Config) *int { return &c.Messages },
		"Servers":  func(c *api.Config) *int { return &c.Servers },
		"Tasks":    func(c *api.Config) *int { return &c.Tasks },
	} {
		for _, n := range []int{math.MinInt, -10000, -1, 0, 1, 2, 5000, 9999, 10000, 10001, 65537, 1<<32 + 1, math.MaxInt} {
			x := change{what + " " + strconv.Itoa(n), func(c *api.Config) { *at(c) = n }}
			if n >= 1 && n <= 10000 {
				taken(t, x)
			} else {
				wrong(t, "numbers", x)
			}
		}
	}
	taken(t, change{"all 1", func(c *api.Config) { c.Sets, c.Messages, c.Servers, c.Tasks = 1, 1, 1, 1 }}, change{"all 10000", func(c *api.Config) { c.Sets, c.Messages, c.Servers, c.Tasks = 10000, 10000, 10000, 10000 }})
}

// P15.1: of all choices of parts that are wrong the first is told.
func TestFirst(t *testing.T) {
	list := []change{
		{"roots", func(c *api.Config) { c.Roots[2].V6, c.Roots[2].Hi = false, 1 }},
		{"rules", func(c *api.Config) { c.Rules[2].Action = 7 }},
		{"locals", func(c *api.Config) { c.Locals[1].Name = "" }},
		{"upstreams", func(c *api.Config) { c.Upstreams[2].Servers = nil }},
		{"anchors", func(c *api.Config) { c.Anchors[3].Ds.Digest += "d" }},
		{"numbers", func(c *api.Config) { c.Tasks = 0 }},
	}
	for bits := range 1 << len(list) {
		var some []change
		first, e := "", api.OK
		for i, x := range list {
			if bits>>i&1 == 1 {
				some = append(some, x)
			}
		}
		if len(some) > 0 {
			first, e = some[0].what, api.ErrConf
		}
		if got, ge := config.Check(changed(some...)); got != first || ge != e {
			t.Errorf("%06b: %q, %v, want %q, %v", bits, got, ge, first, e)
		}
	}
}
