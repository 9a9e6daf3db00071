package config_test

import (
	"slices"
	"strconv"
	"strings"
	"testing"

	"guidepost/acl"
	"guidepost/api"
	"guidepost/config"
	"guidepost/name"
)

// longest is a name of 255 bytes.
var longest = strings.Repeat("\x01a", 126) + "\x01s\x00"

// wrongNames are no names.
func wrongNames() []string {
	return []string{"", "s", "\x01s", "\x02s\x00", "s.", ".", "\x00\x00", "\x01s\x00\x00", "\x01s\x00a", "\x40" + strings.Repeat("a", 64) + "\x00", "\x01a" + longest, "\x02aa" + longest[2:], "\xc0\x00", "\xff"}
}

// wrongAddrs are no addresses.
func wrongAddrs() []api.Addr {
	return []api.Addr{{Hi: 1}, {Hi: 1 << 63}, {Lo: 1 << 32}, {Hi: 1, Lo: 1}, {Lo: 1<<64 - 1}}
}

// must is what a call answers that is not to fail.
func must[T any](x T, e api.Errno) T {
	if e != api.OK {
		panic(e)
	}
	return x
}

func named(text string) string { return must(name.Parse(text)) }

// addrs are so many addresses, of both kinds; the edges of what is an address come first.
func addrs(many int) []api.Addr {
	list := []api.Addr{{Lo: 1<<32 - 1}, {V6: true, Hi: 1<<64 - 1, Lo: 1<<64 - 1}, {}, {V6: true}}
	for i := range many {
		list = append(list, api.Addr{Lo: uint64(i)}, api.Addr{V6: true, Hi: uint64(i), Lo: 1 << 40})
	}
	return list[:many]
}

// upstream is one of a name with one server, whose number tells it from others.
func upstream(n string, number int) api.Upstream {
	return api.Upstream{Name: named(n), Servers: []api.Addr{{Lo: uint64(number)}}, Forward: number%2 == 1}
}

// upstreams are those of names, in words, numbered from 1 on.
func upstreams(names string) []api.Upstream {
	var list []api.Upstream
	for i, n := range strings.Fields(names) {
		list = append(list, upstream(n, i+1))
	}
	return list
}

// anchor is one of a name, whose Tag tells it from others.
func anchor(n string, tag int) api.Anchor {
	if tag%2 == 0 {
		return api.Anchor{Name: named(n), Ds: api.Ds{Tag: tag, Alg: 8, Kind: 1, Digest: strings.Repeat("d", 20)}}
	}
	return api.Anchor{Name: named(n), Ds: api.Ds{Tag: tag, Alg: 13, Kind: 2, Digest: strings.Repeat("e", 32)}}
}

// anchors are those of names, in words, with Tags from 1 on.
func anchors(names string) []api.Anchor {
	var list []api.Anchor
	for i, n := range strings.Fields(names) {
		list = append(list, anchor(n, i+1))
	}
	return list
}

// right is a configuration that is right in all its parts, none of which is empty.
func right() api.Config {
	return api.Config{
		Roots:     addrs(3),
		Rules:     []api.Rule{{Action: api.Allow}, {Prefix: api.Prefix{Addr: api.Addr{Lo: 10 << 24}, Bits: 8}, Action: api.Deny}, {Prefix: api.Prefix{Addr: api.Addr{V6: true}}, Action: api.Refuse}},
		Locals:    []api.Local{{Name: named("l."), Kind: api.LStatic, Records: []api.Record{{Name: named("a.l."), Type: api.TypeA, Class: api.IN, TTL: 60, Data: "\x0a\x00\x00\x01"}}}, {Name: named("m."), Kind: api.LDeny}},
		Upstreams: upstreams("a. b.a. ."),
		Anchors:   anchors(". x. X. y.x."),
		Sets:      100, Messages: 200, Servers: 300, Tasks: 400,
	}
}

// change makes something else of a configuration.
type change struct {
	what string
	do   func(c *api.Config)
}

// changed is a right configuration that was changed.
func changed(list ...change) api.Config {
	c := right()
	for _, x := range list {
		x.do(&c)
	}
	return c
}

// wrong wants that a change of what is right makes this part wrong.
func wrong(t *testing.T, part string, list ...change) {
	t.Helper()
	for _, x := range list {
		if got, e := config.Check(changed(x)); got != part || e != api.ErrConf {
			t.Errorf("%s, %s: %q, %v", part, x.what, got, e)
		}
	}
}

// taken wants that a change of what is right leaves it right.
func taken(t *testing.T, list ...change) {
	t.Helper()
	for _, x := range list {
		if got, e := config.Check(changed(x)); got != "" || e != api.OK {
			t.Errorf("%s: %q, %v", x.what, got, e)
		}
	}
}

// served is what Upstream tells of a name: `b.a. 2 forward`, or `none`.
func served(c api.Config, n string) string {
	u, found := config.Upstream(c, n)
	if !found {
		if u.Name != "" || len(u.Servers) != 0 || u.Forward {
			return "not nothing"
		}
		return "none"
	}
	text := must(name.Text(u.Name))
	for _, a := range u.Servers {
		text += " " + strconv.FormatUint(a.Lo, 10)
	}
	if u.Forward {
		text += " forward"
	}
	return text
}

// trusted is what Anchor tells of a name: `b.a. 2 3`, the Tags, or `none`.
func trusted(c api.Config, n string) string {
	own, list, found := config.Anchor(c, n)
	if !found {
		if own != "" || len(list) != 0 {
			return "not nothing"
		}
		return "none"
	}
	text := must(name.Text(own))
	for _, d := range list {
		text += " " + strconv.Itoa(d.Tag)
	}
	return text
}

// want is a name that is asked for, and the answer.
type want struct{ ask, answer string }

// tells holds what is told of names against what is wanted, twice, so that asking is seen to change nothing.
func tells(t *testing.T, call func(api.Config, string) string, c api.Config, wants ...want) {
	t.Helper()
	for _, w := range append(wants, wants...) {
		if got := call(c, named(w.ask)); got != w.answer {
			t.Errorf("%s: %s\nwant: %s", w.ask, got, w.answer)
		}
	}
}

// both holds what Upstream and Anchor tell where both lists have these names in this order, each name once at most.
func both(t *testing.T, names string, wants ...want) {
	t.Helper()
	c := api.Config{Upstreams: upstreams(names), Anchors: anchors(names)}
	for _, w := range wants {
		n := named(w.ask)
		u, _, _ := strings.Cut(served(c, n), " ")
		a, _, _ := strings.Cut(trusted(c, n), " ")
		if u != w.answer || a != w.answer {
			t.Errorf("%s of %s: Upstream %s, Anchor %s\nwant: %s", w.ask, names, u, a, w.answer)
		}
	}
}

// copied is a configuration that shares no list with this one.
func copied(c api.Config) api.Config {
	c.Roots, c.Rules, c.Locals = slices.Clone(c.Roots), slices.Clone(c.Rules), slices.Clone(c.Locals)
	for i := range c.Locals {
		c.Locals[i].Records = slices.Clone(c.Locals[i].Records)
	}
	c.Upstreams, c.Anchors = slices.Clone(c.Upstreams), slices.Clone(c.Anchors)
	for i := range c.Upstreams {
		c.Upstreams[i].Servers = slices.Clone(c.Upstreams[i].Servers)
	}
	return c
}

// The addresses and names of these tests are what they are said to be.
func TestMade(t *testing.T) {
	for _, a := range addrs(40) {
		if !acl.Right(a) {
			t.Error(a)
		}
	}
	for _, a := range wrongAddrs() {
		if acl.Right(a) {
			t.Error(a)
		}
	}
	for _, n := range wrongNames() {
		if name.Right(n) {
			t.Errorf("%q", n)
		}
	}
	if !name.Right(longest) || len(longest) != 255 {
		t.Error(longest)
	}
}
