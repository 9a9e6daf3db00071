package acl_test

import (
	"math"
	"math/rand"
	"slices"
	"strconv"
	"testing"

	"guidepost/acl"
	"guidepost/api"
)

// found is what Find answers, told.
func found(x *acl.Acl, a api.Addr) string {
	action, p, ok := x.Find(a)
	if !ok {
		if action != api.Refuse || p != (api.Prefix{}) {
			return "not nothing"
		}
		return "none"
	}
	text, _ := acl.Text(p.Addr)
	return text + "/" + strconv.Itoa(p.Bits) + " " + []string{"0", "allow", "refuse", "deny"}[action]
}

// P13.2: what is found, with the rules in any order.
func TestFind(t *testing.T) {
	type ask struct{ a, want string }
	for _, c := range []struct {
		what, rules string
		asks        []ask
	}{
		{"the chapter's example", "10.0.0.0/8 allow, 10.1.0.0/16 deny", []ask{
			{"10.1.2.3", "10.1.0.0/16 deny"}, {"10.2.0.0", "10.0.0.0/8 allow"}, {"11.0.0.0", "none"}, {"10.0.255.255", "10.0.0.0/8 allow"}, {"10.1.0.0", "10.1.0.0/16 deny"}, {"10.1.255.255", "10.1.0.0/16 deny"}, {"9.255.255.255", "none"}, {"10.255.255.255", "10.0.0.0/8 allow"}, {"a01::", "none"}, {"::10.1.2.3", "none"}}},
		{"no rules", "", []ask{{"0.0.0.0", "none"}, {"255.255.255.255", "none"}, {"::", "none"}, {"ffff::1", "none"}}},
		{"a rule that refuses", "10.0.0.0/8 refuse", []ask{{"10.0.0.0", "10.0.0.0/8 refuse"}, {"11.0.0.0", "none"}, {"0.0.0.0", "none"}}},
		{"of no bits", "0.0.0.0/0 allow", []ask{{"0.0.0.0", "0.0.0.0/0 allow"}, {"255.255.255.255", "0.0.0.0/0 allow"}, {"::", "none"}, {"ffff::", "none"}}},
		{"of no bits, of V6", "::/0 deny", []ask{{"::", "0:0:0:0:0:0:0:0/0 deny"}, {"ffff::1", "0:0:0:0:0:0:0:0/0 deny"}, {"0.0.0.0", "none"}, {"255.1.1.1", "none"}}},
		{"one prefix of both kinds", "0.0.0.0/0 allow, ::/0 deny, 0.0.0.0/32 deny, ::/32 allow", []ask{{"1.1.1.1", "0.0.0.0/0 allow"}, {"1::", "0:0:0:0:0:0:0:0/0 deny"}, {"0.0.0.0", "0.0.0.0/32 deny"}, {"::", "0:0:0:0:0:0:0:0/32 allow"}}},
		{"all bits", "10.1.2.3/32 allow, 10.1.2.2/31 deny, 10.1.2.0/24 refuse, 0.0.0.0/0 allow, 128.0.0.0/1 deny", []ask{
			{"10.1.2.3", "10.1.2.3/32 allow"}, {"10.1.2.2", "10.1.2.2/31 deny"}, {"10.1.2.1", "10.1.2.0/24 refuse"}, {"10.1.3.3", "0.0.0.0/0 allow"}, {"138.1.2.3", "128.0.0.0/1 deny"}, {"127.255.255.255", "0.0.0.0/0 allow"}}},
		{"about the middle of V6", "1:2:3:4::/63 allow, 1:2:3:4::/64 deny, 1:2:3:4:8000::/65 refuse, 1:2:3:4:8000::/128 allow, 1:2:3:4:8000::8/127 deny", []ask{
			{"1:2:3:5::", "1:2:3:4:0:0:0:0/63 allow"}, {"1:2:3:4::", "1:2:3:4:0:0:0:0/64 deny"}, {"1:2:3:4:8000::1", "1:2:3:4:8000:0:0:0/65 refuse"}, {"1:2:3:4:8000::", "1:2:3:4:8000:0:0:0/128 allow"}, {"1:2:3:4:8000::9", "1:2:3:4:8000:0:0:8/127 deny"}, {"1:2:3:6::", "none"}, {"1.2.3.4", "none"}}},
		{"the same bits, other lengths", "0.0.0.0/8 allow, 0.0.0.0/16 deny, 0.0.0.0/24 allow, 0.0.0.0/32 refuse", []ask{{"0.0.0.0", "0.0.0.0/32 refuse"}, {"0.0.0.1", "0.0.0.0/24 allow"}, {"0.0.1.0", "0.0.0.0/16 deny"}, {"0.1.0.0", "0.0.0.0/8 allow"}, {"1.0.0.0", "none"}}},
		{"one Action under another of its kind", "10.0.0.0/8 allow, 10.1.0.0/16 allow", []ask{{"10.1.0.1", "10.1.0.0/16 allow"}, {"10.3.0.1", "10.0.0.0/8 allow"}}},
		{"beside each other", "10.0.0.0/16 allow, 10.1.0.0/16 deny, 10.2.0.0/16 refuse", []ask{{"10.0.0.1", "10.0.0.0/16 allow"}, {"10.1.0.1", "10.1.0.0/16 deny"}, {"10.2.0.1", "10.2.0.0/16 refuse"}, {"10.3.0.1", "none"}}},
	} {
		for _, list := range orders(rules(c.rules)) {
			x := must(t, list)
			for _, k := range append(c.asks, c.asks...) {
				if got := found(x, addr(k.a)); got != k.want {
					t.Errorf("%s: %v: %s: %s, want %s", c.what, list, k.a, got, k.want)
				}
			}
		}
	}
}

// orders are all orders of a list.
func orders(list []api.Rule) [][]api.Rule {
	if len(list) < 2 {
		return [][]api.Rule{list}
	}
	var all [][]api.Rule
	for i := range list {
		for _, rest := range orders(slices.Delete(slices.Clone(list), i, i+1)) {
			all = append(all, append([]api.Rule{list[i]}, rest...))
		}
	}
	return all
}

// P13.2: of an address that is not right: Refuse, nothing, false, whatever the rules are.
func TestFindOfNoAddress(t *testing.T) {
	x := must(t, rules("0.0.0.0/0 allow, ::/0 allow, 0.0.0.0/1 deny, 0.0.0.7/32 deny"))
	for _, a := range []api.Addr{{Hi: 1}, {Hi: 9}, {Hi: 1 << 63, Lo: 7}, {Lo: 1 << 32}, {Lo: 1<<32 + 7}, {Lo: math.MaxUint64}, {Hi: math.MaxUint64, Lo: math.MaxUint64}} {
		if action, p, ok := x.Find(a); action != api.Refuse || p != (api.Prefix{}) || ok {
			t.Error(a, action, p, ok)
		}
	}
}

// P13.2: rules that may not be.
func TestNewRefuses(t *testing.T) {
	refused := func(what string, list []api.Rule) {
		t.Helper()
		for _, l := range orders(list) {
			if x, e := acl.New(l); x != nil || e != api.ErrConf {
				t.Errorf("%s: %v: %v, %v", what, l, x, e)
			}
		}
	}
	good := rules("10.0.0.0/8 allow, ::/0 deny")
	for _, p := range bad() {
		refused("a prefix", []api.Rule{{Prefix: p, Action: api.Allow}})
		refused("a prefix among others", append([]api.Rule{{Prefix: p, Action: api.Deny}}, good...))
	}
	for _, action := range []int{0, 4, 5, -1, -2, 257, 1 << 32, 1<<32 + 1, math.MaxInt, math.MinInt} {
		refused("an action", []api.Rule{{Prefix: prefix("10.0.0.0/8"), Action: action}})
		refused("an action among others", append([]api.Rule{{Prefix: prefix("10.0.0.0/16"), Action: action}}, good...))
	}
	for _, text := range []string{
		"10.0.0.0/8 allow, 10.0.0.0/8 allow", "10.0.0.0/8 allow, 10.0.0.0/8 deny", "10.0.0.0/8 refuse, 10.0.0.0/8 allow", "0.0.0.0/0 allow, 0.0.0.0/0 deny", "::/0 allow, ::/0 allow", "1::1/128 deny, 1::1/128 refuse", "10.0.0.1/32 deny, 10.0.0.1/32 deny", "10.0.0.0/8 allow, 10.0.0.0/16 deny, ::/8 deny, 10.0.0.0/8 refuse",
	} {
		refused("one prefix twice", rules(text))
	}
	refused("an action of 0 for a prefix that is there", append(rules("10.0.0.0/8 allow"), api.Rule{Prefix: prefix("10.0.0.0/8")}))
}

// P13.2: no rules may be; nil and empty.
func TestNewOfNoRules(t *testing.T) {
	for _, list := range [][]api.Rule{nil, {}} {
		if got := found(must(t, list), api.Addr{}); got != "none" {
			t.Error(got)
		}
	}
}

// P13.2, P3: the rules are not kept and not changed, nor what stands behind them; two of one list don't hang on each other.
func TestRulesAreNotKept(t *testing.T) {
	all := rules("10.0.0.0/8 allow, 10.1.0.0/16 deny, 10.2.0.0/16 refuse")
	was := slices.Clone(all)
	x, y := must(t, all[:2]), must(t, all[:2])
	if !slices.Equal(all, was) {
		t.Error(all)
	}
	for i := range all {
		all[i] = rule("0.0.0.0/0 deny")
	}
	for range 2 {
		for a, want := range map[string]string{"10.1.2.3": "10.1.0.0/16 deny", "10.2.0.0": "10.0.0.0/8 allow", "11.0.0.0": "none"} {
			if got := found(x, addr(a)); got != want {
				t.Error(a, got)
			}
			if got := found(y, addr(a)); got != want {
				t.Error(a, got)
			}
		}
	}
}

// drawnRules are some, now and then not right.
func drawnRules(r *rand.Rand) []api.Rule {
	var list []api.Rule
	for range r.Intn(12) {
		rule := api.Rule{Prefix: drawnPrefix(r), Action: 1 + r.Intn(3)}
		if (isPrefix(rule.Prefix) || r.Intn(20) == 0) && (len(list) == 0 || r.Intn(20) == 0 || right(append(list, rule))) {
			list = append(list, rule)
		}
	}
	if len(list) > 0 && r.Intn(20) == 0 {
		list[r.Intn(len(list))].Action = r.Intn(6) - 1
	}
	return list
}

// near is an address that a rule holds, or one near it.
func near(r *rand.Rand, list []api.Rule) api.Addr {
	if len(list) == 0 || r.Intn(4) == 0 {
		return drawnAddr(r)
	}
	a := list[r.Intn(len(list))].Prefix.Addr
	for range r.Intn(3) {
		a = turned(a, r.Intn(max(len(digits(a)), 1)))
	}
	return a
}

// P13.2: a slow second reading, over all rules, says the same.
func TestFindAsRead(t *testing.T) {
	r := rand.New(rand.NewSource(134))
	var good, bad, some, none int
	for range 6000 {
		list := drawnRules(r)
		x, e := acl.New(list)
		if (e == api.OK) != right(list) || (e == api.OK) != (x != nil) || e != api.OK && e != api.ErrConf {
			t.Fatal(list, x, e)
		}
		if e != api.OK {
			bad++
			continue
		}
		good++
		for range 20 {
			a := near(r, list)
			action, p, ok := x.Find(a)
			if wantAction, wantP, want := find(list, a); action != wantAction || p != wantP || ok != want {
				t.Fatal(list, a, action, p, ok, wantAction, wantP, want)
			}
			if ok {
				some++
			} else {
				none++
			}
		}
	}
	if good < 2000 || bad < 100 || some < 10000 || none < 10000 {
		t.Error(good, bad, some, none)
	}
}

// P13.3: a rule more changes what is found only for addresses that it holds.
func TestRuleMore(t *testing.T) {
	r := rand.New(rand.NewSource(135))
	changed := 0
	for range 4000 {
		list := drawnRules(r)
		if len(list) == 0 || !right(list) {
			continue
		}
		i := r.Intn(len(list))
		with, less := must(t, list), must(t, slices.Delete(slices.Clone(list), i, i+1))
		for range 20 {
			a := near(r, list)
			was, is := found(less, a), found(with, a)
			action, p, ok := with.Find(a)
			if was != is {
				changed++
			}
			if !acl.Holds(list[i].Prefix, a) && was != is {
				t.Fatal(list, i, a, was, is)
			}
			if acl.Holds(list[i].Prefix, a) && (!ok || p.Bits < list[i].Prefix.Bits || p == list[i].Prefix && action != list[i].Action) {
				t.Fatal(list, i, a, is)
			}
		}
	}
	if changed < 3000 {
		t.Error(changed)
	}
}

// Many rules: each of the addresses of a prefix has one of its own.
func TestManyRules(t *testing.T) {
	var list []api.Rule
	for n := range uint64(5000) {
		list = append(list, api.Rule{Prefix: api.Prefix{Addr: api.Addr{V6: true, Hi: n << 20, Lo: n * n}, Bits: 128}, Action: 1 + int(n%3)})
	}
	x := must(t, list)
	for _, r := range list {
		if action, p, ok := x.Find(r.Prefix.Addr); action != r.Action || p != r.Prefix || !ok {
			t.Fatal(r, action, p, ok)
		}
		if got := found(x, turned(r.Prefix.Addr, 100)); got != "none" {
			t.Fatal(r, got)
		}
	}
}
