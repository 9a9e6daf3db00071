package zone_test

import (
	"reflect"
	"strconv"
	"strings"
	"testing"

	"guidepost/api"
	"guidepost/wire"
	"guidepost/zone"
)

// query is a message that asks; with "do" its Edns has that, too.
func query(text string) api.Message {
	q := asked(text)
	m := api.Message{ID: 7, Ask: []api.Question{{Name: q.n, Type: q.kind, Class: api.IN}}}
	if q.do {
		m.Edns = api.Edns{Has: true, Size: 1232, Do: true}
	}
	return m
}

// replied is the message that Reply sends, as bytes and parsed.
func replied(t *testing.T, z api.Zone, m api.Message, size int) (string, api.Message) {
	t.Helper()
	s, e := zone.Reply(z, m, size)
	r, f := wire.Parse(s)
	if e != api.OK || f != api.OK {
		t.Fatalf("%+v: %q, %v, %v", m, s, e, f)
	}
	return s, r
}

// listed is a list that is nil, if there is nothing in it.
func listed(l []api.Record) []api.Record { return append([]api.Record(nil), l...) }

// sends holds all that is sent back against what is wanted.
func sends(t *testing.T, z api.Zone, m, want api.Message) {
	t.Helper()
	want.Ask = m.Ask
	_, r := replied(t, z, m, 4096)
	r.Answer, r.Authority, r.Extra = listed(r.Answer), listed(r.Authority), listed(r.Extra)
	if !reflect.DeepEqual(r, want) {
		t.Errorf("%+v: %+v, want %+v", m, r, want)
	}
}

// P10.3: each kind of answer as a message.
func TestReplyKinds(t *testing.T) {
	z := zoneOf("x.", example+"d.x. 60 DNAME y.")
	soa := records("x. 5 SOA ns.x. m.x. 1 2 3 4 5")
	sends(t, z, query("WWW.x. A"), api.Message{ID: 7, Reply: true, AA: true, Answer: records("www.x. 60 A 10.0.0.1")})
	sends(t, z, query("www.x. TXT"), api.Message{ID: 7, Reply: true, AA: true, Authority: soa})
	sends(t, z, query("No.x. A"), api.Message{ID: 7, Reply: true, AA: true, Rcode: api.NXDomain, Authority: soa})
	sends(t, z, query("a.sub.x. A"), api.Message{ID: 7, Reply: true, Authority: records("sub.x. 60 NS ns.sub.x."), Extra: records("ns.sub.x. 60 A 10.0.0.2")})
	sends(t, z, query("y. A"), api.Message{ID: 7, Reply: true, Rcode: api.Refused})
	sends(t, z, query("al.x. A"), api.Message{ID: 7, Reply: true, AA: true, Answer: records("al.x. 60 CNAME www.x.")})
	sends(t, z, query("A.w.x. ANY"), api.Message{ID: 7, Reply: true, AA: true, Answer: records("A.w.x. 60 TXT \"t\"")})
	sends(t, z, query("a.d.x. A"), api.Message{ID: 7, Reply: true, AA: true, Answer: records("d.x. 60 DNAME y.\na.d.x. 60 CNAME a.y.")})
}

// P10.3: with Do signatures and proofs are sent; with Edns there is Edns, as it is.
func TestReplyEdns(t *testing.T) {
	z := zoneOf("x.", base+sign("x.", "SOA", "aa")+"x. 60 NSEC x. NS\nwww.x. 30 A 1.2.3.4\nwww.x. 30 A 1.2.3.5\n"+sign("www.x.", "A", "bb")+"www.x. 60 TXT \"a\"")
	soa := records("x. 5 SOA ns.x. m.x. 1 2 3 4 5")
	all := records("x. 5 SOA ns.x. m.x. 1 2 3 4 5\nx. 5 RRSIG SOA 8 1 60 9 8 7 x. aa\nx. 60 NSEC x. NS")
	plain, do := api.Edns{Has: true, Size: 4096}, api.Edns{Has: true, Size: 4096, Do: true}
	sends(t, z, query("no.x. A do"), api.Message{ID: 7, Reply: true, AA: true, Rcode: api.NXDomain, Authority: all, Edns: do})
	sends(t, z, query("www.x. A do"), api.Message{ID: 7, Reply: true, AA: true, Edns: do, Answer: records("www.x. 30 A 1.2.3.4\nwww.x. 30 A 1.2.3.5\nwww.x. 30 RRSIG A 8 1 60 9 8 7 x. bb")})
	sends(t, z, query("www.x. ANY do"), api.Message{ID: 7, Reply: true, AA: true, Edns: do, Answer: records("www.x. 30 A 1.2.3.4\nwww.x. 30 A 1.2.3.5\nwww.x. 30 RRSIG A 8 1 60 9 8 7 x. bb\nwww.x. 60 TXT \"a\"")})
	sends(t, z, query("y. A do"), api.Message{ID: 7, Reply: true, Rcode: api.Refused, Edns: do})
	sends(t, z, query("no.x. A"), api.Message{ID: 7, Reply: true, AA: true, Rcode: api.NXDomain, Authority: soa})
	for _, x := range []api.Edns{{Has: true}, {Has: true, Size: 65535}, {Has: true, Size: 512, Version: 255}, {Has: true, Options: "\x00\x03\x00\x01a"}} {
		m := query("no.x. A")
		m.Edns = x
		sends(t, z, m, api.Message{ID: 7, Reply: true, AA: true, Rcode: api.NXDomain, Authority: soa, Edns: plain})
		m.Edns.Do = true
		sends(t, z, m, api.Message{ID: 7, Reply: true, AA: true, Rcode: api.NXDomain, Authority: all, Edns: do})
	}
}

// P10.3: of the query its ID, RD and question are sent back, and nothing else.
func TestReplyOfQuery(t *testing.T) {
	z := zoneOf("x.", example)
	a := records("www.x. 60 A 10.0.0.1")
	for _, id := range []int{0, 1, 65535} {
		for _, rd := range []bool{false, true} {
			m := query("wWw.X. A")
			m.ID, m.RD = id, rd
			sends(t, z, m, api.Message{ID: id, Reply: true, AA: true, RD: rd, Answer: a})
			m.AA, m.TC, m.RA, m.AD, m.CD, m.Rcode = true, true, true, true, true, 15
			m.Answer, m.Authority, m.Extra = records(example), records(example), records(example)
			sends(t, z, m, api.Message{ID: id, Reply: true, AA: true, RD: rd, Answer: a})
		}
	}
}

// P10.3: ErrArg of messages that are not asked so; but of a zone that is none ErrZone.
func TestReplyWrong(t *testing.T) {
	good := record("www.x. 60 A 10.0.0.1")
	wrong := map[string]func(*api.Message){
		"a reply":            func(m *api.Message) { m.Reply = true },
		"no question":        func(m *api.Message) { m.Ask = nil },
		"two questions":      func(m *api.Message) { m.Ask = append(m.Ask, m.Ask[0]) },
		"class 3":            func(m *api.Message) { m.Ask[0].Class = 3 },
		"class 255":          func(m *api.Message) { m.Ask[0].Class = 255 },
		"class 0":            func(m *api.Message) { m.Ask[0].Class = 0 },
		"class 65537":        func(m *api.Message) { m.Ask[0].Class = 65537 },
		"an ID below 0":      func(m *api.Message) { m.ID = -1 },
		"a great ID":         func(m *api.Message) { m.ID = 65536 },
		"a great Rcode":      func(m *api.Message) { m.Rcode = 16 },
		"Do without Edns":    func(m *api.Message) { m.Edns.Do = true },
		"a great Size":       func(m *api.Message) { m.Edns = api.Edns{Has: true, Size: 65536} },
		"a great Version":    func(m *api.Message) { m.Edns = api.Edns{Has: true, Version: 256} },
		"no options":         func(m *api.Message) { m.Edns = api.Edns{Has: true, Options: "?"} },
		"data not right":     func(m *api.Message) { m.Answer = []api.Record{{Name: good.Name, Type: 1, Class: 1, Data: "?"}} },
		"a wrong name":       func(m *api.Message) { m.Authority = []api.Record{{Name: "?", Type: 1, Class: 1, Data: good.Data}} },
		"an OPT":             func(m *api.Message) { m.Extra = []api.Record{{Name: "\x00", Type: api.TypeOPT, Class: 1}} },
		"201 records":        func(m *api.Message) { m.Extra = append(make([]api.Record, 0, 201), repeated(good, 201)...) },
		"200 and Edns":       func(m *api.Message) { m.Extra, m.Edns.Has = repeated(good, 200), true },
		"a TTL below 0":      func(m *api.Message) { m.Answer = []api.Record{good}; m.Answer[0].TTL = -1 },
		"a type that is one": func(m *api.Message) { m.Answer = []api.Record{good}; m.Answer[0].Type = 65536 },
	}
	for _, op := range []int{1, 2, 4, 15, 16, -1} {
		wrong["Op "+strconv.Itoa(op)] = func(m *api.Message) { m.Op = op }
	}
	for _, n := range wrongNames() {
		wrong["a question of "+strconv.Quote(n)] = func(m *api.Message) { m.Ask[0].Name = n }
	}
	for _, kind := range wrongNumbers() {
		wrong["a question of the type "+strconv.Itoa(kind)] = func(m *api.Message) { m.Ask[0].Type = kind }
	}
	for why, change := range wrong {
		m := query("www.x. A")
		change(&m)
		if s, e := zone.Reply(zoneOf("x.", example), m, 512); e != api.ErrArg || s != "" {
			t.Errorf("%s: %q %v", why, s, e)
		}
		if s, e := zone.Reply(zoneOf("x.", example+"y. 60 A 1.2.3.4"), m, 0); e != api.ErrZone || s != "" {
			t.Errorf("%s, of no zone: %q %v", why, s, e)
		}
	}
}

// repeated is a record, so many times.
func repeated(x api.Record, count int) []api.Record {
	var list []api.Record
	for range count {
		list = append(list, x)
	}
	return list
}

// P10.3: a query too long to be sent whole can be told all the same; sizes are from 512 to 4096.
func TestReplySizes(t *testing.T) {
	z, m := zoneOf("x.", example), query("www.x. A")
	m.Extra = repeated(api.Record{Name: named("a."), Type: other, Class: 1, Data: strings.Repeat("?", 2000)}, 200)
	for _, size := range []int{512, 513, 4095, 4096} {
		if s, e := zone.Reply(z, m, size); e != api.OK || len(s) != 39 {
			t.Errorf("%d: %d bytes, %v", size, len(s), e)
		}
	}
	for _, size := range []int{-1 << 63, -1, 0, 511, 4097, 65535, 1<<63 - 1} {
		if s, e := zone.Reply(z, m, size); e != api.ErrArg || s != "" {
			t.Errorf("%d: %q %v", size, s, e)
		}
		if _, e := zone.Reply(api.Zone{}, m, size); e != api.ErrZone {
			t.Errorf("%d, of no zone: %v", size, e)
		}
	}
}

// P10.3: what has more bytes than size is cut, down to the question and Edns.
func TestReplyCut(t *testing.T) {
	text := func(n string, last int) string {
		return "\n" + n + " 60 TXT \"" + strings.Repeat("a", 255) + "\" \"" + strings.Repeat("b", last) + "\""
	}
	var list []string
	for i := range 195 {
		list = append(list, "www.x. 60 A 10.0.0."+strconv.Itoa(i))
	}
	z := zoneOf("x.", base+strings.Join(list, "\n")+text("t.x.", 222)+text("u.x.", 223))
	for _, c := range []struct {
		ask  string
		size int
	}{{"t.x. TXT", 512}, {"t.x. ANY do", 523}, {"u.x. TXT", 513}, {"u.x. TXT do", 524}, {"www.x. A", 23 + 195*16}, {"www.x. A do", 34 + 195*16}} {
		m := query(c.ask)
		s, r := replied(t, z, m, c.size)
		if len(s) != c.size || r.TC || len(r.Answer) == 0 {
			t.Errorf("%s: %d bytes, %+v", c.ask, len(s), r)
		}
		if more, _ := replied(t, z, m, 4096); more != s {
			t.Errorf("%s: %q with more room", c.ask, more)
		}
		if c.size == 512 {
			continue
		}
		want := api.Message{ID: 7, Reply: true, AA: true, TC: true, Ask: m.Ask, Edns: r.Edns}
		for _, size := range []int{512, c.size - 1} {
			_, r := replied(t, z, m, size)
			r.Answer, r.Authority, r.Extra = listed(r.Answer), listed(r.Authority), listed(r.Extra)
			if !reflect.DeepEqual(r, want) || r.Edns.Do != m.Edns.Do {
				t.Errorf("%s in %d bytes: %+v", c.ask, size, r)
			}
		}
	}
}

// P10.3: the longest question has room in the least size.
func TestReplyLong(t *testing.T) {
	z := zoneOf("x.", base)
	m := api.Message{Ask: []api.Question{{Name: longest, Type: 1, Class: 1}}, Edns: api.Edns{Has: true, Do: true, Options: "\x00\x00\x07\xcc" + strings.Repeat("?", 1996)}}
	if s, r := replied(t, z, m, 512); r.Rcode != api.NXDomain || r.TC || r.Edns.Options != "" || len(s) > 512 {
		t.Errorf("%d bytes: %+v", len(s), r)
	}
	z.Records = append(z.Records, api.Record{Name: longest, Type: 1, Class: 1, Data: "abcd"}, api.Record{Name: longest, Type: other, Class: 1, Data: strings.Repeat("?", 300)})
	m.Ask[0].Type = api.TypeANY
	if s, r := replied(t, z, m, 512); r.Rcode != api.NoError || !r.TC || !r.Edns.Do || len(s) != 12+255+4+11 {
		t.Errorf("%d bytes: %+v", len(s), r)
	}
}
