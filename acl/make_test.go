package acl_test

import (
	"math/rand"
	"net/netip"
	"strconv"
	"strings"
	"testing"

	"guidepost/acl"
	"guidepost/api"
)

// addr reads an address as the library does: `::` may stand for noughts.
func addr(text string) api.Addr {
	a := netip.MustParseAddr(text)
	v := api.Addr{V6: a.Is6()}
	for _, b := range a.AsSlice() {
		v.Hi, v.Lo = v.Hi<<8|v.Lo>>56, v.Lo<<8|uint64(b)
	}
	return v
}

// prefix reads `10.0.0.0/8`; its bits may be too many or below 0.
func prefix(text string) api.Prefix {
	a, bits, _ := strings.Cut(text, "/")
	n, e := strconv.Atoi(bits)
	if e != nil {
		panic("no bits: " + text)
	}
	return api.Prefix{Addr: addr(a), Bits: n}
}

// rule reads `10.0.0.0/8 allow`.
func rule(text string) api.Rule {
	p, action, _ := strings.Cut(text, " ")
	actions := map[string]int{"allow": api.Allow, "refuse": api.Refuse, "deny": api.Deny}
	return api.Rule{Prefix: prefix(p), Action: actions[action]}
}

// rules reads some, with commas between.
func rules(text string) []api.Rule {
	var list []api.Rule
	for part := range strings.SplitSeq(text, ", ") {
		if part != "" {
			list = append(list, rule(part))
		}
	}
	return list
}

// must is what rules tell that are right.
func must(t *testing.T, list []api.Rule) *acl.Acl {
	t.Helper()
	x, e := acl.New(list)
	if x == nil || e != api.OK {
		t.Fatal(list, x, e)
	}
	return x
}

// digits is an address as 0 and 1, one a bit; nothing, if it is not right.
func digits(a api.Addr) string {
	lo := strconv.FormatUint(a.Lo, 2)
	if a.V6 {
		return pad(strconv.FormatUint(a.Hi, 2), 64) + pad(lo, 64)
	}
	if a.Hi != 0 || len(lo) > 32 {
		return ""
	}
	return pad(lo, 32)
}

func pad(text string, n int) string {
	return strings.Repeat("0", n-len(text)) + text
}

// isPrefix is a slow second reading of when a prefix is right.
func isPrefix(p api.Prefix) bool {
	all := digits(p.Addr)
	return all != "" && p.Bits >= 0 && p.Bits <= len(all) && !strings.Contains(all[p.Bits:], "1")
}

// holds is one of Holds.
func holds(p api.Prefix, a api.Addr) bool {
	all := digits(a)
	return all != "" && isPrefix(p) && p.Addr.V6 == a.V6 && strings.HasPrefix(all, digits(p.Addr)[:p.Bits])
}

// find is one of Find: over all rules, in their order.
func find(list []api.Rule, a api.Addr) (int, api.Prefix, bool) {
	best := api.Rule{Prefix: api.Prefix{Bits: -1}}
	for _, r := range list {
		if holds(r.Prefix, a) && r.Prefix.Bits > best.Prefix.Bits {
			best = r
		}
	}
	if best.Action == 0 {
		return api.Refuse, api.Prefix{}, false
	}
	return best.Action, best.Prefix, true
}

// right is one of when rules are.
func right(list []api.Rule) bool {
	seen := map[api.Prefix]int{}
	for _, r := range list {
		seen[r.Prefix]++
		if !isPrefix(r.Prefix) || r.Action < 1 || r.Action > 3 || seen[r.Prefix] > 1 {
			return false
		}
	}
	return true
}

// edges are numbers that an address's words are drawn of, so that many are near each other.
var edges = []uint64{0, 1, 2, 3, 255, 256, 1 << 15, 0xffff, 1 << 16, 1 << 30, 1 << 31, 3 << 30, 1<<32 - 2, 1<<32 - 1, 1 << 32, 1 << 62, 1 << 63, 3 << 62, 1<<63 + 1, 1<<64 - 2, 1<<64 - 1}

func drawnWord(r *rand.Rand) uint64 {
	if r.Intn(3) == 0 {
		return r.Uint64() >> r.Intn(64)
	}
	return edges[r.Intn(len(edges))]
}

// drawnAddr is an address, now and then one that is not right.
func drawnAddr(r *rand.Rand) api.Addr {
	a := api.Addr{V6: r.Intn(2) == 0, Hi: drawnWord(r), Lo: drawnWord(r)}
	if !a.V6 && r.Intn(12) > 0 {
		a.Hi, a.Lo = 0, a.Lo&0xffffffff
	}
	return a
}

// drawnPrefix is a prefix, now and then one that is not right.
func drawnPrefix(r *rand.Rand) api.Prefix {
	p := api.Prefix{Addr: drawnAddr(r), Bits: r.Intn(36) - 1}
	if p.Addr.V6 {
		p.Bits = r.Intn(132) - 1
	}
	all := digits(p.Addr)
	if all == "" || p.Bits < 0 || p.Bits > len(all) || r.Intn(12) == 0 {
		return p
	}
	p.Addr.Hi, p.Addr.Lo = 0, 0
	for i, d := range pad(all[:p.Bits]+strings.Repeat("0", len(all)-p.Bits), 128) {
		if d == '1' && i < 64 {
			p.Addr.Hi += 1 << (63 - i)
		} else if d == '1' {
			p.Addr.Lo += 1 << (127 - i)
		}
	}
	return p
}
