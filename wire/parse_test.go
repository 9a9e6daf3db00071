package wire_test

import (
	"strings"
	"testing"

	"guidepost/api"
)

// empties are so many records of 11 bytes.
func empties(count int) string {
	return strings.Repeat(rec(root, other, ""), count)
}

func emptyRecords(count int) []api.Record {
	var list []api.Record
	for range count {
		list = append(list, record(root, other, ""))
	}
	return list
}

// P3.1: how many bytes a message has.
func TestParseLength(t *testing.T) {
	for count := range 12 {
		refuses(t, "too short", strings.Repeat(root, count), api.ErrHead)
	}
	takes(t, "a header", strings.Repeat(root, 12), api.Message{})
	d := strings.Repeat("d", 2000)
	s := head("0000", 0, 3, 0, 0) + rec(root, other, d) + rec(root, other, d) + rec(root, other, d[:51])
	if len(s) != api.MaxMessage {
		t.Fatal(len(s))
	}
	m := api.Message{ID: 1, Answer: []api.Record{record(root, other, d), record(root, other, d), record(root, other, d[:51])}}
	takes(t, "4096 bytes", s, m)
	longer := head("0000", 0, 3, 0, 0) + rec(root, other, d) + rec(root, other, d) + rec(root, other, d[:52])
	refuses(t, "4097 bytes", longer, api.ErrLong)
	refuses(t, "4097 bytes of nothing", strings.Repeat("\xff", 4097), api.ErrLong)
	refuses(t, "4096 bytes of nothing", strings.Repeat("\xff", 4096), api.ErrBody)
	refuses(t, "very many bytes", strings.Repeat(root, 1<<20), api.ErrLong)
}

// P3.1: how many records a section has.
func TestParseCounts(t *testing.T) {
	takes(t, "200 answers", head("0000", 0, 200, 0, 0)+empties(200), api.Message{ID: 1, Answer: emptyRecords(200)})
	takes(t, "200 authorities", head("0000", 0, 0, 200, 0)+empties(200), api.Message{ID: 1, Authority: emptyRecords(200)})
	takes(t, "200 extras", head("0000", 0, 0, 0, 200)+empties(200), api.Message{ID: 1, Extra: emptyRecords(200)})
	refuses(t, "201 answers", head("0000", 0, 201, 0, 0)+empties(201), api.ErrBody)
	refuses(t, "201 authorities", head("0000", 0, 0, 201, 0)+empties(201), api.ErrBody)
	refuses(t, "201 extras", head("0000", 0, 0, 0, 201)+empties(201), api.ErrBody)
	x := opt(root, 1, "00000000", "")
	takes(t, "199 extras and OPT", head("0000", 0, 0, 0, 200)+empties(199)+x, api.Message{ID: 1, Extra: emptyRecords(199), Edns: api.Edns{Has: true, Size: 1}})
	refuses(t, "200 extras and OPT", head("0000", 0, 0, 0, 201)+empties(200)+x, api.ErrBody)
	for at := range 3 {
		counts := []int{0, 0, 0, 0}
		counts[at+1] = 3
		refuses(t, "a record less", head("0000", counts...)+empties(2), api.ErrBody)
		refuses(t, "a byte less", head("0000", counts...)+empties(3)[:32], api.ErrBody)
		refuses(t, "a record more", head("0000", counts...)+empties(4), api.ErrBody)
		counts[at+1] = 65535
		refuses(t, "65535 records", head("0000", counts...)+empties(200), api.ErrBody)
	}
	question := named("a") + hx("0001 0001")
	refuses(t, "two questions", head("0000", 2, 0, 0, 0)+question+question, api.ErrBody)
	refuses(t, "two questions, and one is there", head("0000", 2, 0, 0, 0)+question, api.ErrBody)
	refuses(t, "256 questions", head("0000", 256, 0, 0, 0)+question, api.ErrBody)
	refuses(t, "no question", head("0000", 1, 0, 0, 0), api.ErrBody)
	refuses(t, "a question that is not told of", head("0000", 0, 0, 0, 0)+question, api.ErrBody)
}

// P3.1: a message that lacks its last bytes is none, nor is one with more bytes. (The answer's data have their name at 35.)
func TestParseCutAnywhere(t *testing.T) {
	s := head("0000", 1, 1, 1, 2) + named("a", "b") + hx("0001 0001") + rec(to(12), api.TypeMX, "\x00\x05"+to(14)) +
		rec(to(14), api.TypeSOA, "\x01m"+to(12)+to(35)+strings.Repeat("n", 20)) + opt(root, 1, "00000000", options(5)) + rec(root, other, "end")
	m := api.Message{
		ID:        1,
		Ask:       []api.Question{{Name: named("a", "b"), Type: 1, Class: 1}},
		Answer:    []api.Record{record(named("a", "b"), api.TypeMX, "\x00\x05"+named("b"))},
		Authority: []api.Record{record(named("b"), api.TypeSOA, named("m", "a", "b")+named("b")+strings.Repeat("n", 20))},
		Extra:     []api.Record{record(root, other, "end")},
		Edns:      api.Edns{Has: true, Size: 1, Options: options(5)},
	}
	takes(t, "whole", s, m)
	for count := 12; count < len(s); count++ {
		refuses(t, "cut", s[:count], api.ErrBody)
	}
	for _, more := range []string{root, "\xff", "x", empties(1), to(12)} {
		refuses(t, "bytes left over", s+more, api.ErrBody)
	}
}

// P3.1, Bytes: names with pointers.
func TestParsePointers(t *testing.T) {
	// The question's name stands at 12, the answer's at 21.
	question := head("0000", 1, 1, 0, 0) + named("a", "b") + hx("0001 0001")
	if len(question) != 21 {
		t.Fatal(len(question))
	}
	whole := api.Message{ID: 1, Ask: []api.Question{{Name: named("a", "b"), Type: 1, Class: 1}}}
	for _, c := range []struct{ what, bytes, name string }{
		{"a pointer", to(12), named("a", "b")},
		{"a pointer to an end", to(14), named("b")},
		{"a pointer to the root", to(16), root},
		{"a label and a pointer", "\x01A" + to(12), named("A", "a", "b")},
		{"labels and a pointer", "\x01A\x02BC" + to(14), named("A", "BC", "b")},
		{"into the header", to(4), root},
		{"into the flags", "\x01x" + to(2), named("x")},
		{"no pointer", named("a", "b"), named("a", "b")},
	} {
		whole.Answer = []api.Record{record(c.name, other, "d")}
		takes(t, c.what, question+rec(c.bytes, other, "d"), whole)
	}
	for _, c := range []struct{ what, bytes string }{
		{"to itself", to(21)},
		{"to the name's own beginning", "\x01a" + to(21)},
		{"to the label ahead", "\x01a\x01b" + to(23)},
		{"to the pointer, behind a label", "\x01a" + to(23)},
		{"forward", to(23)},
		{"forward, to a root", to(32)},
		{"to the end", to(35)},
		{"past the end", to(4095)},
		{"to the place 16383", to(16383)},
		{"into the middle of labels", to(13)},
		{"half a pointer", "\xc0"},
		{"a label of 64", "\x40" + strings.Repeat("x", 64) + root},
		{"a label of 128", "\x80" + strings.Repeat("x", 128) + root},
		{"a label of 191", "\xbf" + strings.Repeat("x", 191) + root},
	} {
		refuses(t, c.what, question+rec(c.bytes, other, "d"), api.ErrBody)
	}
	refuses(t, "a name that has no end", question+"\x01a", api.ErrBody)
	refuses(t, "a label that has no end", question+"\x3fa", api.ErrBody)
	refuses(t, "the end within a pointer", question+"\xc0", api.ErrBody)
}

// P3.1: bytes of the header may be a name, too.
func TestParseNameInHeader(t *testing.T) {
	s := hx("0161 0000") + u16(1) + strings.Repeat(root, 6) + to(0) + hx("0001 0001")
	takes(t, "the ID is a label", s, api.Message{ID: 0x161, Ask: []api.Question{{Name: named("a"), Type: 1, Class: 1}}})
}

// P3.1, Bytes: pointers behind pointers. What the first answer's data are stands at 23.
func TestParsePointersBehind(t *testing.T) {
	make := func(d, name string) string {
		return head("0000", 0, 2, 0, 0) + rec(root, other, d) + rec(name, other, "")
	}
	for _, c := range []struct{ what, d, bytes, name string }{
		{"a pointer to a pointer", root + to(23), to(24), root},
		{"a pointer to a pointer to a pointer", "\x01x\x00" + to(23) + to(26), to(28), named("x")},
		{"labels between", "\x01x\x00\x01y" + to(23) + "\x01z" + to(26), "\x01w" + to(30), named("w", "z", "y", "x")},
		{"just ahead", "\x00" + to(23), "\x01w" + to(24), named("w")},
		{"a label over where the name began", "\x08ab", to(23), named("ab\xc0\x17\x00\x46\x00\x01")},
	} {
		m := api.Message{ID: 1, Answer: []api.Record{record(root, other, c.d), record(c.name, other, "")}}
		takes(t, c.what, make(c.d, c.bytes), m)
	}
	for _, c := range []struct{ what, d, bytes string }{
		{"to itself, behind a pointer", to(23), to(23)},
		{"forward, behind a pointer", to(25) + root, to(23)},
		{"one forward, behind a pointer", "\x01x" + to(24), to(23)},
		{"to where the first one led", "\x01x" + to(23), to(23)},
		{"to where the first one led, further in", "\x01x\x01y" + to(23), to(23)},
		{"to the label at which the part began", root + "\x01x" + to(24), to(24)},
		{"two that lead to each other", to(25) + to(23), to(25)},
		{"forward, behind two pointers", root + to(26) + to(24) + root, to(26)},
		{"no label there", "\x40", to(23)},
		{"a label there past the end", "\x3fx", to(23)},
		{"through the name itself", "\x01x", to(23)},
	} {
		refuses(t, c.what, make(c.d, c.bytes), api.ErrBody)
	}
	refuses(t, "the last of many pointers to itself", make(strings.Repeat(to(23), 900), to(1023)), api.ErrBody)
	chain, last := root, 23
	for range 900 {
		chain, last = chain+to(last), 23+len(chain)
	}
	m := api.Message{ID: 1, Answer: []api.Record{record(root, other, chain), record(root, other, "")}}
	takes(t, "a long chain", make(chain, to(last)), m)
}

// P3.1: names of 255 bytes, and of more.
func TestParseLongNames(t *testing.T) {
	for _, count := range []int{1, 3, 64, 254, 255} {
		m := api.Message{ID: 1, Ask: []api.Question{{Name: sized(count), Type: 1, Class: 1}}}
		takes(t, "a long name", head("0000", 1, 0, 0, 0)+sized(count)+hx("0001 0001"), m)
	}
	for _, count := range []int{256, 257, 300, 511, 3000} {
		refuses(t, "too long a name", head("0000", 1, 0, 0, 0)+sized(count)+hx("0001 0001"), api.ErrBody)
	}
	for _, c := range []struct {
		first int
		ahead string
		ok    bool
	}{
		{255, "", true}, {253, "\x01x", true}, {252, "\x02xx", true}, {192, "\x3e" + strings.Repeat("x", 62), true},
		{254, "\x01x", false}, {255, "\x01x", false}, {253, "\x02xx", false}, {193, "\x3e" + strings.Repeat("x", 62), false},
		{3, sized(253)[:252], true}, {3, sized(254)[:253], false}, {3, sized(255)[:254], false}, {1, sized(255)[:254], true},
	} {
		s := head("0000", 1, 1, 0, 0) + sized(c.first) + hx("0001 0001") + rec(c.ahead+to(12), other, "d")
		if !c.ok {
			refuses(t, "too long by a pointer", s, api.ErrBody)
			continue
		}
		m := api.Message{ID: 1, Ask: []api.Question{{Name: sized(c.first), Type: 1, Class: 1}}}
		m.Answer = []api.Record{record(c.ahead+sized(c.first), other, "d")}
		takes(t, "long by a pointer", s, m)
	}
	label := strings.Repeat("x", 63)
	m := api.Message{ID: 1, Ask: []api.Question{{Name: named(label), Type: 1, Class: 1}}}
	takes(t, "a label of 63 bytes", head("0000", 1, 0, 0, 0)+named(label)+hx("0001 0001"), m)
}

// P3.1, Bytes: names in data. The question's name stands at 12, the answer's data at 32.
func TestParseData(t *testing.T) {
	question := head("0000", 1, 1, 0, 0) + named("a", "b") + hx("0001 0001")
	make := func(kind int, d string) string { return question + rec(root, kind, d) }
	numbers := strings.Repeat("n", 20)
	m := api.Message{ID: 1, Ask: []api.Question{{Name: named("a", "b"), Type: 1, Class: 1}}}
	for _, c := range []struct {
		kind        int
		bytes, data string
	}{
		{api.TypeNS, to(12), named("a", "b")},
		{api.TypeNS, "\x01N" + to(14), named("N", "b")},
		{api.TypeNS, root, root},
		{api.TypeNS, to(16), root},
		{api.TypeCNAME, to(14), named("b")},
		{api.TypeCNAME, named("c"), named("c")},
		{api.TypeMX, "\x00\x0a" + to(12), "\x00\x0a" + named("a", "b")},
		{api.TypeMX, "\xc0\x0c" + to(14), "\xc0\x0c" + named("b")},
		{api.TypeSOA, to(12) + to(14) + numbers, named("a", "b") + named("b") + numbers},
		{api.TypeSOA, named("c") + to(32) + numbers, named("c") + named("c") + numbers},
		{api.TypeSOA, "\x01c" + to(12) + "\x01d" + to(32) + numbers, named("c", "a", "b") + named("d", "c", "a", "b") + numbers},
		{api.TypeDNAME, named("c"), named("c")},
		{other, to(12), to(12)},
		{api.TypeTXT, "\x02" + to(12), "\x02" + to(12)},
		{api.TypeA, to(12) + to(12), to(12) + to(12)},
	} {
		m.Answer = []api.Record{record(root, c.kind, c.data)}
		takes(t, "data", make(c.kind, c.bytes), m)
	}
	for _, c := range []struct {
		kind  int
		bytes string
	}{
		{api.TypeNS, ""}, {api.TypeNS, to(12) + root}, {api.TypeNS, to(32)}, {api.TypeNS, to(33)}, {api.TypeNS, "\xc0"}, {api.TypeNS, "\x01a"},
		{api.TypeNS, "\x01a" + to(32)}, {api.TypeNS, root + root}, {api.TypeNS, "\x40" + strings.Repeat("x", 64) + root}, {api.TypeNS, sized(256)},
		{api.TypeCNAME, ""}, {api.TypeCNAME, sized(255)[:254] + to(12)}, {api.TypeCNAME, to(12) + to(12)},
		{api.TypeMX, ""}, {api.TypeMX, "\x00"}, {api.TypeMX, "\x00\x0a"}, {api.TypeMX, to(12)}, {api.TypeMX, "\x01\x0a" + to(32)},
		{api.TypeMX, "\x00\x0a" + to(34)}, {api.TypeMX, "\x00\x0a" + to(12) + root},
		{api.TypeSOA, to(12) + to(12) + numbers[1:]}, {api.TypeSOA, to(12) + to(12) + numbers + root}, {api.TypeSOA, to(12)},
		{api.TypeSOA, to(12) + numbers}, {api.TypeSOA, to(12) + to(34) + numbers}, {api.TypeSOA, ""},
		{api.TypeDNAME, to(12)}, {api.TypeDNAME, "\x01c" + to(12)},
		{api.TypeNSEC, to(12)}, {api.TypeRRSIG, strings.Repeat("n", 18) + to(12) + "sign"},
		{api.TypeA, "abc"}, {api.TypeA, "abcde"}, {api.TypeA, ""}, {api.TypeAAAA, "abcd"}, {api.TypeTXT, ""}, {api.TypeTXT, "\x02a"},
		{api.TypeDS, "four"}, {api.TypeDNSKEY, "four"}, {api.TypeNSEC3, "\x01\x00\x00\x00\x00\x00"},
		{other, strings.Repeat("d", 2001)}, {api.TypeANY, strings.Repeat("d", 2001)},
	} {
		refuses(t, "wrong data", make(c.kind, c.bytes), api.ErrBody)
	}
	m.Answer = []api.Record{record(root, other, strings.Repeat("d", 2000))}
	takes(t, "2000 bytes of data", make(other, m.Answer[0].Data), m)
}

// P3.1: data end where their length says it, though a name goes on; what a pointer leads to does not.
func TestParseDataEnd(t *testing.T) {
	s := head("0000", 0, 1, 0, 0) + root + u16(api.TypeNS) + hx("0001 00000005 0002") + named("a")
	refuses(t, "a name past the end of its data", s, api.ErrBody)
	s = head("0000", 0, 1, 0, 0) + root + u16(api.TypeNS) + hx("0001 00000005 0001") + to(4)
	refuses(t, "a pointer past the end of its data", s, api.ErrBody)
	s = head("0000", 0, 1, 0, 0) + root + u16(api.TypeNS) + hx("0001 00000005 0005") + to(4)
	refuses(t, "data past the end of the message", s, api.ErrBody)
	s = head("0000", 0, 1, 0, 0) + rec(named("x"), api.TypeNS, to(12))
	takes(t, "a pointer to the record's own name", s, api.Message{ID: 1, Answer: []api.Record{record(named("x"), api.TypeNS, named("x"))}})
	// The label at 23 goes over the data of NS, at 36, and the last record's name; its type's first byte is the root.
	s = head("0000", 0, 3, 0, 0) + rec(root, other, "\x0fz") + rec(root, api.TypeNS, to(23)) + rec(root, other, "")
	long := record(root, api.TypeNS, named(s[24:39]))
	m := api.Message{ID: 1, Answer: []api.Record{record(root, other, "\x0fz"), long, record(root, other, "")}}
	takes(t, "a label over the end of its data", s, m)
}

// P3.1: an OPT that may not be.
func TestParseWrongOpt(t *testing.T) {
	x := opt(root, 1, "00000000", "")
	refuses(t, "OPT in the answers", head("0000", 0, 1, 0, 0)+x, api.ErrBody)
	refuses(t, "OPT in the authorities", head("0000", 0, 0, 1, 0)+x, api.ErrBody)
	refuses(t, "OPT in the answers, and where it may be", head("0000", 0, 1, 0, 1)+x+x, api.ErrBody)
	refuses(t, "two of them", head("0000", 0, 0, 0, 2)+x+x, api.ErrBody)
	refuses(t, "two of them, not side by side", head("0000", 0, 0, 0, 3)+x+empties(1)+x, api.ErrBody)
	refuses(t, "a name", head("0000", 0, 0, 0, 1)+opt(named("a"), 1, "00000000", ""), api.ErrBody)
	refuses(t, "a name by a pointer", head("0000", 1, 0, 0, 1)+named("a")+hx("0001 0001")+opt(to(12), 1, "00000000", ""), api.ErrBody)
	for _, d := range []string{
		"a", "abc", "\x00\x0a\x00", "\x00\x0a\x00\x01", "\x00\x0a\x00\x05four", options(8) + "a", options(8) + "\x00\x0a\x00", options(8) + "\x00\x0a\x00\x01",
		"\x00\x0a\xff\xff" + strings.Repeat("o", 100), options(2001), options(1000) + options(1001),
	} {
		refuses(t, "no options", head("0000", 0, 0, 0, 1)+opt(root, 1, "00000000", d), api.ErrBody)
	}
}
