package wire_test

import (
	"encoding/hex"
	"reflect"
	"slices"
	"strings"
	"testing"

	"guidepost/api"
	"guidepost/wire"
)

const root = "\x00"

// other is a type whose data are any bytes.
const other = 70

// hx is the bytes that hex with blanks tells.
func hx(text string) string {
	s, err := hex.DecodeString(strings.ReplaceAll(text, " ", ""))
	if err != nil {
		panic(err)
	}
	return string(s)
}

func u16(n int) string {
	return string([]byte{byte(n >> 8), byte(n)})
}

// named is a name of these labels.
func named(labels ...string) string {
	n := ""
	for _, label := range labels {
		n += string([]byte{byte(len(label))}) + label
	}
	return n + root
}

// sized is a name of so many bytes (not 2).
func sized(count int) string {
	if count%2 == 1 {
		return strings.Repeat("\x01a", count/2) + root
	}
	return "\x02bc" + strings.Repeat("\x01a", (count-4)/2) + root
}

// head is the bytes of a header: ID 1, flags, and how many there are of each.
func head(flags string, counts ...int) string {
	s := hx("0001") + hx(flags)
	for _, count := range counts {
		s += u16(count)
	}
	return s
}

// rec is the bytes of a record of class IN, TTL 5, data and name as they are.
func rec(name string, kind int, d string) string {
	return name + u16(kind) + hx("0001 00000005") + u16(len(d)) + d
}

// opt is the bytes of an OPT record.
func opt(name string, class int, ttl, d string) string {
	return name + u16(api.TypeOPT) + u16(class) + hx(ttl) + u16(len(d)) + d
}

// to is a pointer to a place.
func to(place int) string {
	return u16(49152 + place)
}

// record is what rec tells.
func record(name string, kind int, d string) api.Record {
	return api.Record{Name: name, Type: kind, Class: api.IN, TTL: 5, Data: d}
}

// options are so many bytes of one option.
func options(count int) string {
	return u16(10) + u16(count-4) + strings.Repeat("o", count-4)
}

// plain is m with nil for empty lists.
func plain(m api.Message) api.Message {
	if len(m.Ask) == 0 {
		m.Ask = nil
	}
	for _, list := range []*[]api.Record{&m.Answer, &m.Authority, &m.Extra} {
		if len(*list) == 0 {
			*list = nil
		}
	}
	return m
}

func same(a, b api.Message) bool {
	return reflect.DeepEqual(plain(a), plain(b))
}

func zero(m api.Message) bool {
	return same(m, api.Message{})
}

// takes checks that bytes are parsed as a message.
func takes(t *testing.T, what, s string, want api.Message) {
	t.Helper()
	if m, e := wire.Parse(s); e != api.OK || !same(m, want) {
		t.Errorf("%s: Parse(%q) = %+v, %v, not %+v", what, s, m, e, want)
	}
}

// refuses checks that bytes are not parsed.
func refuses(t *testing.T, what, s string, want api.Errno) {
	t.Helper()
	if m, e := wire.Parse(s); e != want || !zero(m) {
		t.Errorf("%s: Parse(%q) = %+v, %v, not %v", what, s, m, e, want)
	}
}

// writes checks the bytes that all of a message is written as, and that these are parsed as the message.
func writes(t *testing.T, what string, m api.Message, want string) {
	t.Helper()
	if s, all, e := wire.Write(m, api.MaxMessage); s != want || !all || e != api.OK {
		t.Errorf("%s: Write(%+v) = %q, %v, %v, not %q", what, m, s, all, e, want)
	}
	takes(t, what, want, m)
}

// fails checks that a message is not written.
func fails(t *testing.T, what string, m api.Message, limit int, want api.Errno) {
	t.Helper()
	if s, all, e := wire.Write(m, limit); s != "" || all || e != want {
		t.Errorf("%s: Write(%+v, %d) = %q, %v, %v, not %v", what, m, limit, s, all, e, want)
	}
}

// The chapter's examples.
func TestExamples(t *testing.T) {
	first := hx("0001 0100 0001 0000 0000 0000 01 61 00 0001 0001")
	m := api.Message{ID: 1, RD: true, Ask: []api.Question{{Name: named("a"), Type: api.TypeA, Class: api.IN}}}
	writes(t, "a question", m, first)
	refuses(t, "three bytes", hx("0001 01"), api.ErrHead)
	refuses(t, "a byte more", first+root, api.ErrBody)
	m.Ask[0].Name = named("a", "b")
	m.Answer = []api.Record{record(named("a", "b"), api.TypeA, "\x7f\x00\x00\x01")}
	writes(t, "an answer", m, head("0100", 1, 1, 0, 0)+named("a", "b")+hx("0001 0001")+rec(hx("C0 0C"), api.TypeA, "\x7f\x00\x00\x01"))
	refuses(t, "a pointer to itself", head("0100", 1, 0, 0, 0)+hx("C0 0C 0001 0001"), api.ErrBody)
}

// P3.1, P3.2: what the header tells.
func TestHead(t *testing.T) {
	for _, c := range []struct {
		bytes string
		m     api.Message
	}{
		{"0000 00 00", api.Message{}},
		{"ffff 00 00", api.Message{ID: 65535}},
		{"1234 00 00", api.Message{ID: 0x1234}},
		{"0000 80 00", api.Message{Reply: true}},
		{"0000 78 00", api.Message{Op: 15}},
		{"0000 08 00", api.Message{Op: 1}},
		{"0000 40 00", api.Message{Op: 8}},
		{"0000 04 00", api.Message{AA: true}},
		{"0000 02 00", api.Message{TC: true}},
		{"0000 01 00", api.Message{RD: true}},
		{"0000 00 80", api.Message{RA: true}},
		{"0000 00 20", api.Message{AD: true}},
		{"0000 00 10", api.Message{CD: true}},
		{"0000 00 0f", api.Message{Rcode: 15}},
		{"0000 00 01", api.Message{Rcode: 1}},
		{"0000 00 08", api.Message{Rcode: 8}},
		{"abcd ff bf", api.Message{ID: 0xabcd, Reply: true, Op: 15, AA: true, TC: true, RD: true, RA: true, AD: true, CD: true, Rcode: 15}},
	} {
		writes(t, c.bytes, c.m, hx(c.bytes)+strings.Repeat(root, 8))
	}
	takes(t, "64 is nothing", hx("0000 00 40")+strings.Repeat(root, 8), api.Message{})
	takes(t, "64 among the others", hx("0000 00 ff")+strings.Repeat(root, 8), api.Message{RA: true, AD: true, CD: true, Rcode: 15})
}

// P3.1, P3.2: what stands in each section, and in what order.
func TestSections(t *testing.T) {
	m := api.Message{
		ID:        1,
		Ask:       []api.Question{{Name: named("q"), Type: 0x1234, Class: 0xfedc}},
		Answer:    []api.Record{record(named("a"), api.TypeA, "\x01\x02\x03\x04"), record(root, other, "")},
		Authority: []api.Record{{Name: named("b"), Type: api.TypeTXT, Class: 254, TTL: 1<<32 - 1, Data: "\x01x\x00"}},
		Extra: []api.Record{
			{Name: named("c"), Type: api.TypeAAAA, Class: 255, TTL: 0x12345678, Data: "sixteen bytes..."},
			{Name: named("d"), Type: api.TypeANY, Data: "any"},
			{Name: named("e"), Type: 65535, Class: 65535},
		},
		Edns: api.Edns{Has: true, Size: 4096, Version: 3, Options: options(6)},
	}
	s := head("0000", 1, 2, 1, 4) + named("q") + hx("1234 fedc") +
		rec(named("a"), api.TypeA, "\x01\x02\x03\x04") + rec(root, other, "") +
		named("b") + hx("0010 00fe ffffffff 0003") + "\x01x\x00" +
		named("c") + hx("001c 00ff 12345678 0010") + "sixteen bytes..." +
		named("d") + hx("00ff 0000 00000000 0003") + "any" +
		named("e") + hx("ffff ffff 00000000 0000") +
		opt(root, 4096, "00030000", options(6))
	writes(t, "all sections", m, s)
}

// P3.1, P3.2: what OPT tells.
func TestEdns(t *testing.T) {
	for _, c := range []struct {
		flags, ttl, options string
		m                   api.Message
	}{
		{"0000", "00000000", "", api.Message{Edns: api.Edns{Size: 512}}},
		{"0000", "00008000", "", api.Message{Edns: api.Edns{Size: 1232, Do: true}}},
		{"0000", "00ff0000", "", api.Message{Edns: api.Edns{Version: 255}}},
		{"0000", "00010000", "", api.Message{Edns: api.Edns{Size: 65535, Version: 1}}},
		{"0000", "01000000", "", api.Message{Rcode: 16}},
		{"000f", "ff000000", "", api.Message{Rcode: 4095}},
		{"0005", "00000000", "", api.Message{Rcode: 5}},
		{"0007", "80018000", options(4), api.Message{Rcode: 2055, Edns: api.Edns{Do: true, Version: 1}}},
		{"0000", "00000000", options(4) + options(5) + options(300), api.Message{}},
		{"0000", "00000000", options(2000), api.Message{}},
	} {
		c.m.ID, c.m.Edns.Has, c.m.Edns.Options = 1, true, c.options
		writes(t, c.ttl, c.m, head(c.flags, 0, 0, 0, 1)+opt(root, c.m.Edns.Size, c.ttl, c.options))
	}
}

// P3.1: the bits of OPT that are not looked at, and its place among the extras.
func TestEdnsIsTaken(t *testing.T) {
	has := api.Edns{Has: true, Size: 1}
	for _, ttl := range []string{"00007fff", "00000001", "00004000"} {
		takes(t, ttl, head("0000", 0, 0, 0, 1)+opt(root, 1, ttl, ""), api.Message{ID: 1, Edns: has})
	}
	a, b := rec(named("a"), other, "x"), rec(named("b"), other, "y")
	want := api.Message{ID: 1, Extra: []api.Record{record(named("a"), other, "x"), record(named("b"), other, "y")}, Edns: has}
	x := opt(root, 1, "00000000", "")
	for _, extras := range []string{x + a + b, a + x + b, a + b + x} {
		takes(t, "OPT anywhere in the extras", head("0000", 0, 0, 0, 3)+extras, want)
	}
	takes(t, "the root by a pointer", head("0000", 0, 0, 0, 1)+opt(to(4), 1, "00000000", ""), api.Message{ID: 1, Edns: has})
	question := api.Message{ID: 1, Ask: []api.Question{{Name: root, Type: api.TypeOPT, Class: 1}}}
	writes(t, "a question for OPT", question, head("0000", 1, 0, 0, 0)+root+hx("0029 0001"))
}

// P3: what is handed in stays as it is, and what is answered is its own.
func TestNothingIsShared(t *testing.T) {
	extras := []api.Record{record(named("a"), other, "x"), record(named("b"), other, "y")}
	answers := slices.Clone(extras)
	m := api.Message{Answer: answers[:1], Extra: extras[:1], Edns: api.Edns{Has: true, Size: 7}}
	before := slices.Clone(extras)
	s, _, _ := wire.Write(m, 512)
	if !slices.Equal(extras, before) || !slices.Equal(answers, before) {
		t.Errorf("Write made %+v and %+v of %+v", extras, answers, before)
	}
	one, _ := wire.Parse(s)
	two, _ := wire.Parse(s)
	one.Answer = append(one.Answer, record(root, other, "z"))
	one.Extra = append(one.Extra, record(root, other, "z"))
	one.Answer[0].Name, one.Extra[0].Name = "p", "q"
	if !same(two, m) {
		t.Errorf("%+v is not %+v any more", two, m)
	}
}
