package config_test

import (
	"math/rand"
	"slices"
	"strings"

	"guidepost/acl"
	"guidepost/api"
	"guidepost/local"
	"guidepost/name"
)

// slowUnder is a slow second reading of which names are under others, of names without odd bytes.
func slowUnder(a, b string) bool {
	if !name.Right(a) || !name.Right(b) {
		return false
	}
	low, end := strings.ToLower(must(name.Text(a))), strings.ToLower(must(name.Text(b)))
	return end == "." || low == end || strings.HasSuffix(low, "."+end)
}

// slowServers is one of which servers may be.
func slowServers(list []api.Addr) bool {
	return len(list) > 0 && len(list) < 21 && !slices.ContainsFunc(list, func(a api.Addr) bool { return !acl.Right(a) })
}

// slowDs is one of what may be trusted.
func slowDs(d api.Ds) bool {
	sizes := map[int]int{1: 20, 2: 32}
	return d.Tag == int(uint16(d.Tag)) && slices.Contains([]int{8, 13}, d.Alg) && sizes[d.Kind] > 0 && sizes[d.Kind] == len(d.Digest)
}

// slowCheck is one of Check: all faults are found, and the first is told.
func slowCheck(c api.Config) (string, api.Errno) {
	var faults [6]bool
	faults[0] = !slowServers(c.Roots)
	_, e := acl.New(c.Rules)
	faults[1] = e != api.OK
	_, e = local.New(c.Locals)
	faults[2] = e != api.OK
	for i, u := range c.Upstreams {
		faults[3] = faults[3] || !name.Right(u.Name) || !slowServers(u.Servers)
		for _, other := range c.Upstreams[:i] {
			faults[3] = faults[3] || name.Equal(u.Name, other.Name)
		}
	}
	for _, a := range c.Anchors {
		faults[4] = faults[4] || !name.Right(a.Name) || !slowDs(a.Ds)
	}
	faults[5] = min(c.Sets, c.Messages, c.Servers, c.Tasks) < 1 || max(c.Sets, c.Messages, c.Servers, c.Tasks) > 10000
	if at := slices.Index(faults[:], true); at >= 0 {
		return strings.Fields("roots rules locals upstreams anchors numbers")[at], api.ErrConf
	}
	return "", api.OK
}

// slowNearest is one of which Name counts: the places of all that have it; nothing, if there is none.
func slowNearest(names []string, n string) []int {
	var best []int
	for i, own := range names {
		if !slowUnder(n, own) {
			continue
		}
		if len(best) > 0 && len(name.Labels(own)) > len(name.Labels(names[best[0]])) {
			best = nil
		}
		if len(best) == 0 || len(name.Labels(own)) == len(name.Labels(names[best[0]])) {
			best = append(best, i)
		}
	}
	return best
}

// slowUpstream is one of Upstream.
func slowUpstream(c api.Config, n string) (api.Upstream, bool) {
	var names []string
	for _, u := range c.Upstreams {
		names = append(names, u.Name)
	}
	places := slowNearest(names, n)
	if len(places) == 0 {
		return api.Upstream{}, false
	}
	return c.Upstreams[places[0]], true
}

// slowAnchor is one of Anchor.
func slowAnchor(c api.Config, n string) (string, []api.Ds, bool) {
	var names []string
	for _, a := range c.Anchors {
		names = append(names, a.Name)
	}
	places := slowNearest(names, n)
	if len(places) == 0 {
		return "", nil, false
	}
	var list []api.Ds
	for _, i := range places {
		list = append(list, c.Anchors[i].Ds)
	}
	return names[places[0]], list, true
}

func pick[T any](r *rand.Rand, list ...T) T { return list[r.Intn(len(list))] }

// drawnName is one of few, in any letters; seldom none.
func drawnName(r *rand.Rand) string {
	if r.Intn(30) == 0 {
		return pick(r, wrongNames()...)
	}
	n := "."
	for range r.Intn(5) {
		n = pick(r, "a", "b", "ab") + "." + strings.TrimPrefix(n, ".")
	}
	return must(name.Cased(named(n), r.Uint64()&r.Uint64()))
}

// drawnServers are some; seldom too many, or none.
func drawnServers(r *rand.Rand) []api.Addr {
	list := addrs(1 + r.Intn(4))
	if r.Intn(20) == 0 {
		list = addrs(pick(r, 0, 20, 21))
	}
	if r.Intn(25) == 0 {
		list = append(list, pick(r, wrongAddrs()...))
	}
	r.Shuffle(len(list), func(i, j int) { list[i], list[j] = list[j], list[i] })
	return list
}

// drawnUpstream is one that may be, or nearly.
func drawnUpstream(r *rand.Rand) api.Upstream {
	return api.Upstream{Name: drawnName(r), Servers: drawnServers(r), Forward: r.Intn(2) == 0}
}

// drawnAnchor is one that may be, or nearly.
func drawnAnchor(r *rand.Rand) api.Anchor {
	a := anchor(".", r.Intn(65536))
	a.Name = drawnName(r)
	switch r.Intn(40) {
	case 0:
		a.Ds.Tag = pick(r, -1, 65536)
	case 1:
		a.Ds.Alg = r.Intn(20)
	case 2:
		a.Ds.Kind = r.Intn(4)
	case 3:
		a.Ds.Digest = strings.Repeat("c", pick(r, 19, 20, 21, 31, 32, 33))
	}
	return a
}

// drawnConfig is one that may be, or nearly.
func drawnConfig(r *rand.Rand) api.Config {
	c := right()
	c.Roots, c.Upstreams, c.Anchors = drawnServers(r), nil, nil
	for range r.Intn(6) {
		u := drawnUpstream(r)
		same := func(other api.Upstream) bool { return name.Equal(u.Name, other.Name) }
		if !slices.ContainsFunc(c.Upstreams, same) || r.Intn(6) == 0 {
			c.Upstreams = append(c.Upstreams, u)
		}
	}
	for range r.Intn(8) {
		c.Anchors = append(c.Anchors, drawnAnchor(r))
	}
	switch r.Intn(16) {
	case 0:
		c.Rules = append(c.Rules, pick(r, c.Rules...))
	case 1:
		c.Rules = nil
	case 2:
		c.Locals = append(c.Locals, pick(r, c.Locals...))
	case 3:
		c.Locals = nil
	case 4:
		c.Locals[r.Intn(2)].Kind = r.Intn(7)
	case 5:
		*pick(r, &c.Sets, &c.Messages, &c.Servers, &c.Tasks) = pick(r, -1, 0, 1, 10000, 10001)
	}
	return c
}
