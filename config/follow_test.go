package config_test

import (
	"math/rand"
	"reflect"
	"slices"
	"strings"
	"testing"

	"guidepost/api"
	"guidepost/config"
)

// P15.1, P15.2: drawn configurations, held against slow second readings.
func TestDrawn(t *testing.T) {
	r := rand.New(rand.NewSource(15))
	count := map[string]int{}
	for range 6000 {
		c := drawnConfig(r)
		before := copied(c)
		part, e := config.Check(c)
		if want, we := slowCheck(c); part != want || e != we {
			t.Fatalf("%+v: %q, %v, want %q, %v", c, part, e, want, we)
		}
		count["part "+part]++
		for range 6 {
			n := drawnName(r)
			u, served := config.Upstream(c, n)
			if want, found := slowUpstream(c, n); !sameUpstream(u, want) || served != found {
				t.Fatalf("%q of %+v: %+v, %v, want %+v", n, c.Upstreams, u, served, want)
			}
			own, list, trusted := config.Anchor(c, n)
			if want, ds, found := slowAnchor(c, n); own != want || !slices.Equal(list, ds) || trusted != found {
				t.Fatalf("%q of %+v: %q, %+v, want %q, %+v", n, c.Anchors, own, list, want, ds)
			}
			if served {
				count["served"]++
			}
			if len(list) > 1 {
				count["several Ds"]++
			}
		}
		if !reflect.DeepEqual(c, before) {
			t.Fatal("written into", c, before)
		}
	}
	for _, what := range strings.Split("part ,part roots,part rules,part locals,part upstreams,part anchors,part numbers,served,several Ds", ",") {
		if count[what] < 30 {
			t.Error("seldom:", what, count[what])
		}
	}
}

func sameUpstream(a, b api.Upstream) bool {
	return a.Name == b.Name && a.Forward == b.Forward && slices.Equal(a.Servers, b.Servers)
}

// P15.3: what is told of a name stays, if one more comes, or one goes, under whose Name it is not; and if all else of the Config is another.
func TestHangsOnThoseAbove(t *testing.T) {
	r := rand.New(rand.NewSource(153))
	kept := 0
	for range 6000 {
		c, n := drawnConfig(r), drawnName(r)
		u, served := config.Upstream(c, n)
		own, list, trusted := config.Anchor(c, n)
		other := drawnConfig(r)
		other.Upstreams, other.Anchors = slices.Clone(c.Upstreams), slices.Clone(c.Anchors)
		for range r.Intn(5) {
			if x := drawnUpstream(r); !slowUnder(n, x.Name) {
				other.Upstreams = slices.Insert(other.Upstreams, r.Intn(len(other.Upstreams)+1), x)
				kept++
			}
			if x := drawnAnchor(r); !slowUnder(n, x.Name) {
				other.Anchors = slices.Insert(other.Anchors, r.Intn(len(other.Anchors)+1), x)
				kept++
			}
		}
		other.Upstreams = slices.DeleteFunc(other.Upstreams, func(x api.Upstream) bool { return !slowUnder(n, x.Name) && r.Intn(3) == 0 })
		other.Anchors = slices.DeleteFunc(other.Anchors, func(x api.Anchor) bool { return !slowUnder(n, x.Name) && r.Intn(3) == 0 })
		if got, found := config.Upstream(other, n); !sameUpstream(got, u) || found != served {
			t.Fatalf("%q of %+v: %+v, %v, want %+v", n, other.Upstreams, got, found, u)
		}
		if got, ds, found := config.Anchor(other, n); got != own || !slices.Equal(ds, list) || found != trusted {
			t.Fatalf("%q of %+v: %q, %+v, want %q, %+v", n, other.Anchors, got, ds, own, list)
		}
	}
	if kept < 5000 {
		t.Error("seldom:", kept)
	}
}

// P15.3: one more beside, above and below, in words.
func TestOneMore(t *testing.T) {
	for _, more := range []string{"c.", "a.b.a.", "x.a.", "aa.", "b.", "a.a.", "b.a.c.", "c.b.b.a."} {
		for at := range 3 {
			c := api.Config{Upstreams: upstreams("a. b.a."), Anchors: anchors("a. b.a.")}
			c.Upstreams, c.Anchors = slices.Insert(c.Upstreams, at, upstream(more, 9)), slices.Insert(c.Anchors, at, anchor(more, 9))
			tells(t, served, c, want{"c.b.a.", "b.a. 2"}, want{"b.a.", "b.a. 2"}, want{"a.", "a. 1 forward"}, want{"y.a.", "a. 1 forward"}, want{"x.", "none"}, want{".", "none"})
			tells(t, trusted, c, want{"c.b.a.", "b.a. 2"}, want{"b.a.", "b.a. 2"}, want{"a.", "a. 1"}, want{"y.a.", "a. 1"}, want{"x.", "none"}, want{".", "none"})
		}
	}
}

// spoil writes into all of a list, its spare room too.
func spoil[T any](list []T, x T) {
	list = list[:cap(list)]
	for i := range list {
		list[i] = x
	}
}

// DOC.md's P3: a change of what was told changes nothing of the Config, nor of what is told next.
func TestToldIsNew(t *testing.T) {
	c := right()
	c.Upstreams[0].Servers, c.Upstreams[1].Servers = addrs(3), addrs(5)
	before := copied(c)
	n := named("c.b.a.")
	first, _ := config.Upstream(c, n)
	second, _ := config.Upstream(c, n)
	spoil(first.Servers, api.Addr{Lo: 77})
	if !reflect.DeepEqual(c, before) || !reflect.DeepEqual(second, before.Upstreams[1]) {
		t.Error(c, second)
	}
	n = named("q.x.")
	_, list, _ := config.Anchor(c, n)
	_, other, _ := config.Anchor(c, n)
	spoil(list, api.Ds{Tag: 77})
	if !reflect.DeepEqual(c, before) || !slices.Equal(other, []api.Ds{before.Anchors[1].Ds, before.Anchors[2].Ds}) {
		t.Error(c, other)
	}
	if got := trusted(c, n); got != "x. 2 3" {
		t.Error(got)
	}
}

// roomy is a list with room behind it, which is filled.
func roomy[T any](list []T, x T) []T {
	all := slices.Concat(list, slices.Repeat([]T{x}, 4))
	return all[:len(list)]
}

// DOC.md's P3: nothing that is handed in is written into, nor what stands behind it; and what stands there counts for nothing.
func TestHandedIn(t *testing.T) {
	newOne := func() api.Config {
		c := right()
		c.Roots, c.Rules, c.Locals = roomy(c.Roots, api.Addr{Hi: 9}), roomy(c.Rules, api.Rule{}), roomy(c.Locals, api.Local{})
		for i, z := range c.Locals {
			c.Locals[i].Records = roomy(z.Records, api.Record{})
		}
		for i, u := range c.Upstreams {
			c.Upstreams[i].Servers = roomy(u.Servers, api.Addr{Hi: 9})
		}
		c.Upstreams, c.Anchors = roomy(c.Upstreams, upstream("b.a.", 8)), roomy(c.Anchors, anchor("x.", 8))
		return c
	}
	c, same := newOne(), newOne()
	if part, e := config.Check(c); part != "" || e != api.OK {
		t.Error(part, e)
	}
	tells(t, served, c, want{"b.a.", "b.a. 2"}, want{"q.", ". 3 forward"})
	tells(t, trusted, c, want{"x.", "x. 2 3"}, want{"q.", ". 1"})
	if !reflect.DeepEqual(whole(c), whole(same)) {
		t.Error("written into")
	}
}

// whole is a configuration with what stands behind its lists.
func whole(c api.Config) api.Config {
	c.Roots, c.Rules, c.Locals = c.Roots[:cap(c.Roots)], c.Rules[:cap(c.Rules)], slices.Clone(c.Locals[:cap(c.Locals)])
	for i, z := range c.Locals {
		c.Locals[i].Records = z.Records[:cap(z.Records)]
	}
	c.Upstreams, c.Anchors = slices.Clone(c.Upstreams[:cap(c.Upstreams)]), c.Anchors[:cap(c.Anchors)]
	for i, u := range c.Upstreams {
		c.Upstreams[i].Servers = u.Servers[:cap(u.Servers)]
	}
	return c
}
