package wire_test

import (
	"strings"
	"testing"

	"guidepost/api"
	"guidepost/wire"
)

// asked is a message with something everywhere.
func asked() api.Message {
	return api.Message{
		ID:        7,
		Reply:     true,
		RD:        true,
		Rcode:     3,
		Ask:       []api.Question{{Name: named("q"), Type: api.TypeA, Class: api.IN}},
		Answer:    []api.Record{record(named("a"), api.TypeA, "abcd")},
		Authority: []api.Record{record(named("b"), api.TypeNS, named("ns"))},
		Extra:     []api.Record{record(named("c"), api.TypeTXT, "\x03xyz")},
		Edns:      api.Edns{Has: true, Size: 1232, Do: true, Options: options(4)},
	}
}

// change is something that is done to a message.
type change struct {
	what string
	do   func(m *api.Message)
}

// numbers are changes that put a number into each place that has so many bits.
func numbers(bits int, n int) []change {
	switch bits {
	case 4:
		return []change{
			{"Op", func(m *api.Message) { m.Op = n }},
			{"Rcode", func(m *api.Message) { m.Rcode, m.Edns = n, api.Edns{} }},
		}
	case 8:
		return []change{{"Version", func(m *api.Message) { m.Edns.Version = n }}}
	case 12:
		return []change{{"Rcode", func(m *api.Message) { m.Rcode = n }}}
	case 16:
		return []change{
			{"ID", func(m *api.Message) { m.ID = n }},
			{"Size", func(m *api.Message) { m.Edns.Size = n }},
			{"a question's type", func(m *api.Message) { m.Ask[0].Type = n }},
			{"a question's class", func(m *api.Message) { m.Ask[0].Class = n }},
			{"an answer's type", func(m *api.Message) { m.Answer[0].Type = n }},
			{"an authority's type", func(m *api.Message) { m.Authority[0].Type = n }},
			{"an extra's type", func(m *api.Message) { m.Extra[0].Type = n }},
			{"an answer's class", func(m *api.Message) { m.Answer[0].Class = n }},
			{"an authority's class", func(m *api.Message) { m.Authority[0].Class = n }},
			{"an extra's class", func(m *api.Message) { m.Extra[0].Class = n }},
		}
	}
	return []change{
		{"an answer's TTL", func(m *api.Message) { m.Answer[0].TTL = n }},
		{"an authority's TTL", func(m *api.Message) { m.Authority[0].TTL = n }},
		{"an extra's TTL", func(m *api.Message) { m.Extra[0].TTL = n }},
	}
}

// P3.2: how many bits numbers may have.
func TestWriteNumbers(t *testing.T) {
	for _, bits := range []int{4, 8, 12, 16, 32} {
		for _, n := range []int{0, 1, 1<<bits - 1, 1 << (bits - 1)} {
			for _, c := range numbers(bits, n) {
				m := asked()
				c.do(&m)
				s, all, e := wire.Write(m, 512)
				if back, be := wire.Parse(s); e != api.OK || !all || be != api.OK || !same(back, m) {
					t.Errorf("%s %d: %+v, %v, %v; %+v, %v", c.what, n, m, all, e, back, be)
				}
			}
		}
		for _, n := range []int{-1, 1 << bits, 1<<bits + 1, -1 << bits, 1 << 62, -1 << 63, 1<<63 - 1} {
			for _, c := range numbers(bits, n) {
				m := asked()
				c.do(&m)
				fails(t, c.what, m, 512, api.ErrArg)
			}
		}
	}
}

// P3.2: what else is none that can be told.
func TestWriteRefuses(t *testing.T) {
	var changes []change
	for _, n := range []string{"", "a", "\x01a", root + root, "\x01", sized(256), named(strings.Repeat("x", 64)), "\xc0\x0c", "\x01a\xc0\x0c", named("a") + "x"} {
		changes = append(changes,
			change{"a question's name", func(m *api.Message) { m.Ask[0].Name = n }},
			change{"an answer's name", func(m *api.Message) { m.Answer[0].Name = n }},
			change{"an authority's name", func(m *api.Message) { m.Authority[0].Name = n }},
			change{"an extra's name", func(m *api.Message) { m.Extra[0].Name = n }},
			change{"an authority's data", func(m *api.Message) { m.Authority[0].Data = n }},
			change{"data of SOA", func(m *api.Message) { m.Answer[0] = record(root, api.TypeSOA, n+root+strings.Repeat("n", 20)) }},
			change{"data of SOA", func(m *api.Message) { m.Answer[0] = record(root, api.TypeSOA, root+n+strings.Repeat("n", 20)) }},
			change{"data of MX", func(m *api.Message) { m.Extra[0] = record(root, api.TypeMX, "\x00\x00"+n) }},
		)
	}
	for _, d := range []string{"", "abc", "abcde"} {
		changes = append(changes, change{"an answer's data", func(m *api.Message) { m.Answer[0].Data = d }})
	}
	changes = append(changes,
		change{"an extra's data", func(m *api.Message) { m.Extra[0].Data = "" }},
		change{"2001 bytes of data", func(m *api.Message) { m.Answer[0] = record(root, other, strings.Repeat("d", 2001)) }},
		change{"two questions", func(m *api.Message) { m.Ask = append(m.Ask, m.Ask[0]) }},
		change{"OPT in the answers", func(m *api.Message) { m.Answer[0] = record(root, api.TypeOPT, "") }},
		change{"OPT in the authorities", func(m *api.Message) { m.Authority = append(m.Authority, record(root, api.TypeOPT, "")) }},
		change{"OPT in the extras", func(m *api.Message) { m.Extra = append(m.Extra, record(root, api.TypeOPT, "")) }},
		change{"OPT in the extras, no Edns", func(m *api.Message) { m.Extra[0], m.Edns = record(root, api.TypeOPT, ""), api.Edns{} }},
		change{"no Has, but Size", func(m *api.Message) { m.Edns = api.Edns{Size: 1} }},
		change{"no Has, but Do", func(m *api.Message) { m.Edns = api.Edns{Do: true} }},
		change{"no Has, but Version", func(m *api.Message) { m.Edns = api.Edns{Version: 1} }},
		change{"no Has, but Options", func(m *api.Message) { m.Edns = api.Edns{Options: options(4)} }},
		change{"no Has, and Rcode 16", func(m *api.Message) { m.Edns, m.Rcode = api.Edns{}, 16 }},
		change{"2001 bytes of options", func(m *api.Message) { m.Edns.Options = options(2001) }},
		change{"more options", func(m *api.Message) { m.Edns.Options = strings.Repeat(options(100), 21) }},
	)
	for _, d := range []string{"a", "abc", "\x00\x0a\x00", "\x00\x0a\x00\x01", options(8) + "a", options(8) + "\x00\x0a\x00\x01", "\x00\x0a\xff\xff"} {
		changes = append(changes, change{"no options", func(m *api.Message) { m.Edns.Options = d }})
	}
	for _, c := range changes {
		m := asked()
		c.do(&m)
		for _, limit := range []int{512, 4096} {
			fails(t, c.what, m, limit, api.ErrArg)
		}
	}
}

// P3.2: how many records a section may have.
func TestWriteCounts(t *testing.T) {
	for _, c := range []change{
		{"200 answers", func(m *api.Message) { m.Answer = emptyRecords(200) }},
		{"200 authorities", func(m *api.Message) { m.Authority = emptyRecords(200) }},
		{"200 extras", func(m *api.Message) { m.Extra = emptyRecords(200) }},
		{"199 extras and OPT", func(m *api.Message) { m.Extra, m.Edns = emptyRecords(199), api.Edns{Has: true} }},
		{"no question", func(m *api.Message) { m.Ask = nil }},
	} {
		m := asked()
		m.Edns = api.Edns{}
		c.do(&m)
		s, all, e := wire.Write(m, 4096)
		if back, be := wire.Parse(s); !all || e != api.OK || be != api.OK || !same(back, m) {
			t.Errorf("%s: %v, %v, %v", c.what, all, e, be)
		}
	}
	for _, c := range []change{
		{"201 answers", func(m *api.Message) { m.Answer = emptyRecords(201) }},
		{"201 authorities", func(m *api.Message) { m.Authority = emptyRecords(201) }},
		{"201 extras", func(m *api.Message) { m.Extra, m.Edns = emptyRecords(201), api.Edns{} }},
		{"200 extras and OPT", func(m *api.Message) { m.Extra = emptyRecords(200) }},
		{"very many answers", func(m *api.Message) { m.Answer = make([]api.Record, 1<<16) }},
	} {
		m := asked()
		c.do(&m)
		fails(t, c.what, m, 512, api.ErrArg)
		fails(t, c.what, m, 4096, api.ErrArg)
	}
}

// P3.2: limits that may be, and such that may not.
func TestWriteLimit(t *testing.T) {
	for _, limit := range []int{512, 513, 1232, 4095, 4096} {
		if s, all, e := wire.Write(asked(), limit); s == "" || !all || e != api.OK {
			t.Errorf("limit %d: %q, %v, %v", limit, s, all, e)
		}
	}
	for _, limit := range []int{511, 4097, 0, 12, -1, -512, 65535, 1 << 40, -1 << 63, 1<<63 - 1} {
		fails(t, "limit", asked(), limit, api.ErrArg)
		fails(t, "limit", api.Message{}, limit, api.ErrArg)
	}
}

// filled is a message of just so many bytes (600 to 4200), the last of them in one of the sections.
func filled(size, section int) api.Message {
	m := asked()
	m.Op, m.AA, m.RA, m.AD, m.CD, m.Rcode = 5, true, true, true, true, 0x123
	m.Answer, m.Authority, m.Extra = nil, nil, nil
	list := []*[]api.Record{&m.Answer, &m.Authority, &m.Extra}[section]
	left := size - (12 + 7 + 11 + 4)
	for left > 0 {
		d := min(left-11, 1000)
		if left-11-d < 11 && left-11-d > 0 {
			d -= 11
		}
		*list = append(*list, record(root, other, strings.Repeat("d", d)))
		left -= 11 + d
	}
	return m
}

// P3.2: a message that is just as long as the limit, and a byte longer.
func TestWriteCut(t *testing.T) {
	for _, limit := range []int{512, 513, 1000, 1232, 4095, 4096} {
		for section := range 3 {
			m := filled(limit, section)
			s, all, e := wire.Write(m, limit)
			if len(s) != limit || !all || e != api.OK {
				t.Errorf("%d bytes: %d, %v, %v", limit, len(s), all, e)
			}
			takes(t, "just so long", s, m)
			for _, more := range []int{1, 2, 100, 5000} {
				m := filled(limit+more, section)
				s, all, e := wire.Write(m, limit)
				if all || e != api.OK {
					t.Errorf("%d bytes for %d: %v, %v", limit+more, limit, all, e)
				}
				m.TC, m.Answer, m.Authority, m.Extra = true, nil, nil, nil
				takes(t, "cut", s, m)
				if whole, _, _ := wire.Write(m, limit); s != whole {
					t.Errorf("%q is not %q", s, whole)
				}
			}
		}
	}
}

// P3.2: what stays of a cut message, to the byte.
func TestWriteCutBytes(t *testing.T) {
	m := filled(600, 0)
	m.Authority = []api.Record{record(named("b"), api.TypeNS, named("ns"))}
	m.Extra = []api.Record{record(named("c"), api.TypeTXT, "\x01x")}
	s, all, e := wire.Write(m, 512)
	want := hx("0007 AF B3 0001 0000 0000 0001") + named("q") + hx("0001 0001") + opt(root, 1232, "12008000", options(4))
	if s != want || all || e != api.OK {
		t.Errorf("%q, %v, %v, not %q", s, all, e, want)
	}
	m.Edns, m.Rcode, m.Ask = api.Edns{}, 15, nil
	s, all, e = wire.Write(m, 512)
	if want := hx("0007 AF BF 0000 0000 0000 0000"); s != want || all || e != api.OK {
		t.Errorf("%q, %v, %v, not %q", s, all, e, want)
	}
}

// P3.2: a cut message that is still too long.
func TestWriteLong(t *testing.T) {
	for _, c := range []struct {
		limit, options int
		name           string
		fits           bool
	}{
		{512, 484, root, true}, {512, 485, root, false}, {512, 486, root, false}, {512, 2000, root, false},
		{512, 230, sized(255), true}, {512, 231, sized(255), false},
		{1000, 972, root, true}, {1000, 973, root, false},
		{2281, 2000, sized(254), true}, {2282, 2000, sized(255), true}, {2281, 2000, sized(255), false}, {4096, 2000, sized(255), true},
	} {
		m := api.Message{Ask: []api.Question{{Name: c.name, Type: 1, Class: 1}}, Edns: api.Edns{Has: true, Options: options(c.options)}}
		big := m
		big.Answer = []api.Record{record(root, other, strings.Repeat("d", 2000)), record(root, other, strings.Repeat("d", 2000))}
		if !c.fits {
			fails(t, "too long", m, c.limit, api.ErrLong)
			fails(t, "too long, cut", big, c.limit, api.ErrLong)
			continue
		}
		if s, all, e := wire.Write(m, c.limit); len(s) > c.limit || !all || e != api.OK {
			t.Errorf("%+v: %v, %v", c, all, e)
		}
		s, all, e := wire.Write(big, c.limit)
		if len(s) > c.limit || all || e != api.OK {
			t.Errorf("%+v, cut: %v, %v", c, all, e)
		}
		m.TC = true
		takes(t, "cut", s, m)
	}
	// What may not be is told ahead of what is too long.
	m := api.Message{ID: -1, Edns: api.Edns{Has: true, Options: options(600)}}
	fails(t, "wrong and too long", m, 512, api.ErrArg)
}
