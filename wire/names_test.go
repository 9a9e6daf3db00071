package wire_test

import (
	"strings"
	"testing"

	"guidepost/api"
	"guidepost/wire"
)

// P3.3: names of questions and records. The question's name stands at 12.
func TestNames(t *testing.T) {
	for _, c := range []struct {
		what, question string
		names, bytes   []string
	}{
		{"the same", named("a", "b"), []string{named("a", "b")}, []string{to(12)}},
		{"an end", named("a", "b"), []string{named("b")}, []string{to(14)}},
		{"another end", named("a", "b"), []string{named("x", "b")}, []string{"\x01x" + to(14)}},
		{"a label ahead", named("a", "b"), []string{named("x", "a", "b")}, []string{"\x01x" + to(12)}},
		{"other letters", named("a", "b"), []string{named("A", "b")}, []string{"\x01A" + to(14)}},
		{"all other letters", named("a", "b"), []string{named("A", "B")}, []string{named("A", "B")}},
		{"other letters in the end", named("a", "b"), []string{named("a", "B")}, []string{named("a", "B")}},
		{"a beginning is no end", named("a", "b"), []string{named("a")}, []string{named("a")}},
		{"the root is never a pointer", root, []string{root, named("a"), root}, []string{root, named("a"), root}},
		{"the root behind a name", named("a"), []string{root}, []string{root}},
		{"labels alike in one name", named("a", "a", "a"), []string{named("a"), named("a", "a")}, []string{to(16), to(14)}},
		{"all of it anew", named("a", "b"), []string{named("b", "a")}, []string{named("b", "a")}},
		{"as a label, not as bytes", named("a\x01b"), []string{named("b"), named("a", "b")}, []string{named("b"), "\x01a" + to(21)}},
	} {
		m := api.Message{ID: 1, Ask: []api.Question{{Name: c.question, Type: 1, Class: 1}}}
		s := head("0000", 1, len(c.names), 0, 0) + c.question + hx("0001 0001")
		for i, n := range c.names {
			m.Answer = append(m.Answer, record(n, other, ""))
			s += rec(c.bytes[i], other, "")
		}
		writes(t, c.what, m, s)
	}
}

// P3.3: a pointer to the first place, and what a pointer leads to is not written again. The names stand at 12, 25 and 39.
func TestFirstPlace(t *testing.T) {
	names := []string{named("b"), named("a", "b"), named("x", "a", "b"), named("x", "a", "b"), named("a", "b"), named("b"), named("y", "b")}
	bytes := []string{named("b"), "\x01a" + to(12), "\x01x" + to(25), to(39), to(25), to(12), "\x01y" + to(12)}
	m := api.Message{ID: 1}
	s := head("0000", 0, 0, len(names), 0)
	for i, n := range names {
		m.Authority = append(m.Authority, record(n, other, ""))
		s += rec(bytes[i], other, "")
	}
	writes(t, "the first place", m, s)
}

// P3.3: names in data of NS, CNAME, SOA, MX are written so, too, and count. The first record's data stand at 25.
func TestNamesInData(t *testing.T) {
	numbers := strings.Repeat("n", 20)
	for _, c := range []struct {
		kind        int
		data, bytes string
		later       string
	}{
		{api.TypeNS, named("n", "o"), "\x01n" + to(12), to(25)},
		{api.TypeCNAME, named("n", "o"), "\x01n" + to(12), to(25)},
		{api.TypeMX, "\x01o" + named("n", "o"), "\x01o\x01n" + to(12), to(27)},
		{api.TypeSOA, named("n", "o") + named("m", "n", "o") + numbers, "\x01n" + to(12) + "\x01m" + to(25) + numbers, to(25)},
		{api.TypeSOA, root + named("n", "o") + numbers, root + "\x01n" + to(12) + numbers, to(26)},
		{api.TypeSOA, named("o") + named("n", "o") + numbers, to(12) + "\x01n" + to(12) + numbers, to(27)},
		{api.TypeDNAME, named("n", "o"), named("n", "o"), "\x01n" + to(12)},
		{api.TypeDNAME, named("o"), named("o"), "\x01n" + to(12)},
		{api.TypeNSEC, named("n", "o"), named("n", "o"), "\x01n" + to(12)},
		{api.TypeRRSIG, strings.Repeat("n", 18) + named("n", "o") + "sign", strings.Repeat("n", 18) + named("n", "o") + "sign", "\x01n" + to(12)},
		{api.TypeTXT, "\x01n\x01o\x00", "\x01n\x01o\x00", "\x01n" + to(12)},
		{other, named("n", "o"), named("n", "o"), "\x01n" + to(12)},
	} {
		m := api.Message{ID: 1, Answer: []api.Record{record(named("o"), c.kind, c.data)}, Extra: []api.Record{record(named("n", "o"), other, "")}}
		writes(t, "names in data", m, head("0000", 0, 1, 0, 1)+rec(named("o"), c.kind, c.bytes)+rec(c.later, other, ""))
	}
}

// P3.3, P3.5: the longest names, over and over.
func TestLongNames(t *testing.T) {
	m := api.Message{ID: 1, Ask: []api.Question{{Name: sized(255), Type: 1, Class: 1}}}
	s := head("0000", 1, 3, 0, 0) + sized(255) + hx("0001 0001")
	for _, n := range []string{sized(255), sized(253), "\x01x" + sized(253)} {
		m.Answer = append(m.Answer, record(n, api.TypeNS, n))
	}
	at := len(s) + 12 + 2 + 12 + 2
	s += rec(to(12), api.TypeNS, to(12)) + rec(to(14), api.TypeNS, to(14)) + rec("\x01x"+to(14), api.TypeNS, to(at))
	writes(t, "long names", m, s)
}

// P3.3: names of a message that is longer than any place may be: it is cut.
func TestFarNames(t *testing.T) {
	m := api.Message{ID: 1}
	for range 9 {
		m.Answer = append(m.Answer, record(named("a"), other, strings.Repeat("d", 2000)))
	}
	m.Answer = append(m.Answer, record(named("far"), api.TypeNS, named("far")), record(named("far"), api.TypeNS, named("a")))
	if s, all, e := wire.Write(m, 4096); s != head("0200", 0, 0, 0, 0) || all || e != api.OK {
		t.Errorf("%q, %v, %v", s, all, e)
	}
}
