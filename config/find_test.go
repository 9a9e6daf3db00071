package config_test

import (
	"reflect"
	"slices"
	"strings"
	"testing"

	"guidepost/api"
	"guidepost/config"
	"guidepost/name"
)

// P15.2: the chapter's example, with the Upstreams in both orders.
func TestExample(t *testing.T) {
	tells(t, served, api.Config{Upstreams: upstreams("a. b.a.")}, want{"c.b.a.", "b.a. 2"}, want{"a.", "a. 1 forward"}, want{"x.", "none"})
	tells(t, served, api.Config{Upstreams: upstreams("b.a. a.")}, want{"c.b.a.", "b.a. 1 forward"}, want{"a.", "a. 2"}, want{"x.", "none"})
	both(t, "a. b.a.", want{"c.b.a.", "b.a."}, want{"a.", "a."}, want{"x.", "none"})
}

// P15.2: names at, below and beside others, in other letters, and under several; the letters told are those configured.
func TestNearest(t *testing.T) {
	wants := []want{
		{"s.", "S."}, {"S.", "S."}, {"a.s.", "S."}, {"B.s.", "b.s."}, {"b.S.", "b.s."}, {"a.b.s.", "b.s."}, {"a.a.b.s.", "a.A.b.s."}, {"A.a.B.S.", "a.A.b.s."}, {"x.y.a.a.b.s.", "a.A.b.s."}, {"b.a.b.s.", "b.s."}, {"bb.s.", "S."}, {"a.bb.s.", "S."},
		{"t.", "none"}, {"t.t.", "T.t."}, {"x.t.T.", "T.t."}, {"x.t.", "none"}, {"u.", "u."}, {"x.U.", "u."}, {".", "none"}, {"v.", "none"}, {"as.", "none"}, {"s.v.", "none"}, {"b.s.v.", "none"}, {`a\.s.`, "none"}, {`x\001s.`, "none"}, {`b\.s.`, "none"},
	}
	for _, names := range []string{"S. b.s. a.A.b.s. T.t. u.", "u. T.t. a.A.b.s. b.s. S.", "b.s. u. S. T.t. a.A.b.s."} {
		both(t, names, wants...)
	}
	for _, names := range []string{". S. b.s.", "b.s. . S.", "S. b.s. ."} {
		both(t, names, want{".", "."}, want{"v.", "."}, want{"s.", "S."}, want{"B.S.", "b.s."}, want{"x.b.s.", "b.s."}, want{"b.s.v.", "."})
	}
	both(t, ".", want{".", "."}, want{"v.", "."}, want{"a.b.c.d.", "."})
}

// P15.2: the one with the most labels counts, however many bytes another one's labels have; and of one label that is longer than all others.
func TestMostLabels(t *testing.T) {
	great := strings.Repeat("g", 63) + "."
	both(t, great+" a."+great, want{"a." + great, "a." + great}, want{"b." + great, great}, want{"b.a." + great, "a." + great})
	both(t, "a.b.c.d.e. "+great+" f.", want{"x.a.b.c.d.e.", "a.b.c.d.e."}, want{great, great}, want{"e.", "none"})
	c := api.Config{Upstreams: append(upstreams("s. ."), api.Upstream{Name: longest}), Anchors: append(anchors("s. ."), api.Anchor{Name: longest})}
	for _, n := range []string{longest, must(name.Cased(longest, 5))} {
		if u, found := config.Upstream(c, n); u.Name != longest || !found {
			t.Error(u, found)
		}
		if own, list, found := config.Anchor(c, n); own != longest || len(list) != 1 || !found {
			t.Error(own, list, found)
		}
	}
	if got := served(c, longest[2:]); got != "s. 1 forward" {
		t.Error(got)
	}
}

// P15.2: of no list at all, and of what is no name, whatever there is, nothing and false.
func TestNothing(t *testing.T) {
	for _, n := range append(wrongNames(), "\x00", named("a."), longest) {
		for _, c := range []api.Config{{}, {Upstreams: []api.Upstream{}, Anchors: []api.Anchor{}}, {Roots: addrs(3), Locals: right().Locals}} {
			if served(c, n) != "none" || trusted(c, n) != "none" {
				t.Errorf("%q: %s, %s", n, served(c, n), trusted(c, n))
			}
		}
	}
	c := right()
	for _, n := range wrongNames() {
		c.Upstreams, c.Anchors = append(c.Upstreams, api.Upstream{Name: n, Servers: addrs(1)}), append(c.Anchors, api.Anchor{Name: n, Ds: c.Anchors[0].Ds})
	}
	for _, n := range wrongNames() {
		if served(c, n) != "none" || trusted(c, n) != "none" {
			t.Errorf("%q: %s, %s", n, served(c, n), trusted(c, n))
		}
	}
}

// P15.2: one is told of Upstreams alone, the other of Anchors alone.
func TestApart(t *testing.T) {
	c := api.Config{Upstreams: upstreams("u. a."), Anchors: anchors("v. b.a.")}
	tells(t, served, c, want{"u.", "u. 1 forward"}, want{"v.", "none"}, want{"b.a.", "a. 2"})
	tells(t, trusted, c, want{"v.", "v. 1"}, want{"u.", "none"}, want{"b.a.", "b.a. 2"}, want{"a.", "none"})
}

// P15.2: what is no name is passed over, wherever it stands.
func TestPassedOver(t *testing.T) {
	for _, bad := range wrongNames() {
		for at := range 4 {
			c := api.Config{Upstreams: upstreams("a. b.a. ."), Anchors: anchors("a. b.a. A.")}
			c.Upstreams = slices.Insert(c.Upstreams, at, api.Upstream{Name: bad, Servers: []api.Addr{{Lo: 9}}, Forward: true})
			c.Anchors = slices.Insert(c.Anchors, at, api.Anchor{Name: bad, Ds: anchor(".", 9).Ds})
			tells(t, served, c, want{"c.b.a.", "b.a. 2"}, want{"a.", "a. 1 forward"}, want{"s.", ". 3 forward"}, want{".", ". 3 forward"})
			tells(t, trusted, c, want{"c.b.a.", "b.a. 2"}, want{"a.", "a. 1 3"}, want{"s.", "none"}, want{".", "none"})
		}
		only := api.Config{Upstreams: []api.Upstream{{Name: bad}}, Anchors: []api.Anchor{{Name: bad}}}
		tells(t, served, only, want{".", "none"}, want{"s.", "none"})
		tells(t, trusted, only, want{".", "none"}, want{"s.", "none"})
	}
}

// P15.2: of several Upstreams with as many labels the first one is told, with its own letters.
func TestFirstUpstream(t *testing.T) {
	tells(t, served, api.Config{Upstreams: upstreams("A. a. a.")}, want{"a.", "A. 1 forward"}, want{"x.a.", "A. 1 forward"})
	tells(t, served, api.Config{Upstreams: upstreams(". . a. A. b.a. B.a. b.A. . A.")}, want{"a.", "a. 3 forward"}, want{"B.A.", "b.a. 5 forward"}, want{"c.B.a.", "b.a. 5 forward"}, want{"x.", ". 1 forward"}, want{"x.a.", "a. 3 forward"})
	tells(t, served, api.Config{Upstreams: upstreams("x.s. y.s. z.s. Y.s.")}, want{"y.s.", "y.s. 2"}, want{"a.Z.s.", "z.s. 3 forward"}, want{"s.", "none"})
}

// P15.2: all Ds of the Anchors of a name are told, in their order, with the letters of the first one's Name.
func TestAllDs(t *testing.T) {
	c := api.Config{Anchors: anchors("x. y. X. . y.X. x. Y.x. y.y. y.x.")}
	tells(t, trusted, c, want{"x.", "x. 1 3 6"}, want{"X.", "x. 1 3 6"}, want{"a.x.", "x. 1 3 6"}, want{"y.x.", "y.X. 5 7 9"}, want{"A.Y.X.", "y.X. 5 7 9"}, want{"y.", "y. 2"}, want{"y.y.", "y.y. 8"}, want{"z.", ". 4"}, want{".", ". 4"})
	slices.Reverse(c.Anchors)
	tells(t, trusted, c, want{"x.", "x. 6 3 1"}, want{"y.x.", "y.x. 9 7 5"}, want{"q.y.", "y. 2"}, want{"z.", ". 4"})
	twice := api.Config{Anchors: []api.Anchor{anchor("X.", 4), anchor("x.", 4), anchor("X.", 4)}}
	tells(t, trusted, twice, want{"x.", "X. 4 4 4"})
	many := api.Config{Anchors: slices.Repeat(anchors("x. y."), 300)}
	if own, list, found := config.Anchor(many, named("a.y.")); own != named("y.") || len(list) != 300 || !found {
		t.Error(own, len(list), found)
	}
}

// P15.2: any Config is taken; an Upstream and the Ds are told as they stand, all of their fields, right or not.
func TestAsTheyStand(t *testing.T) {
	for _, u := range []api.Upstream{
		{Name: named("a.")}, {Name: named("a."), Forward: true}, {Name: named("A."), Servers: addrs(1)}, {Name: named("a."), Servers: addrs(20), Forward: true}, {Name: named("a."), Servers: addrs(21)}, {Name: named("a."), Servers: append(wrongAddrs(), wrongAddrs()...)}, {Name: "\x00", Servers: addrs(5)},
	} {
		if got, found := config.Upstream(api.Config{Upstreams: []api.Upstream{u}}, named("x.a.")); !reflect.DeepEqual(got, u) || !found {
			t.Error(got, found)
		}
	}
	list := []api.Ds{{}, {Tag: -1, Alg: 1 << 40, Kind: -7, Digest: "\xff"}, {Tag: 65535, Alg: 13, Kind: 2, Digest: strings.Repeat("e", 32)}, {Tag: 3, Alg: 8, Kind: 1, Digest: strings.Repeat("\x00", 20)}, {}}
	var c api.Config
	for _, d := range list {
		c.Anchors = append(c.Anchors, api.Anchor{Name: named("a."), Ds: d})
	}
	if own, got, found := config.Anchor(c, named("x.a.")); own != named("a.") || !reflect.DeepEqual(got, list) || !found {
		t.Error(own, got, found)
	}
	empty := api.Config{Upstreams: []api.Upstream{{Name: named("a."), Servers: []api.Addr{}}}}
	if u, found := config.Upstream(empty, named("a.")); u.Name != named("a.") || len(u.Servers) != 0 || !found {
		t.Error(u, found)
	}
}
