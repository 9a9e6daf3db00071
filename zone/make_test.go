package zone_test

import (
	"strconv"
	"strings"
	"testing"

	"guidepost/api"
	"guidepost/data"
	"guidepost/name"
	"guidepost/zone"
)

const (
	half  = 1 << 31
	whole = 1 << 32
	other = 65280 // a type of which nothing is known
)

// base is what the zone x. must have.
const base = `
x. 60 SOA ns.x. m.x. 1 2 3 4 5
x. 60 NS ns.x.
`

// example is the zone of the chapter's examples.
const example = base + `
www.x. 60 A 10.0.0.1
sub.x. 60 NS ns.sub.x.
ns.sub.x. 60 A 10.0.0.2
*.w.x. 60 TXT "t"
al.x. 60 CNAME www.x.
`

// longest is a name of 255 bytes under x., above is the one of 253 bytes above it.
var (
	above   = strings.Repeat("\x01a", 125) + "\x01x\x00"
	longest = "\x01n" + above
)

// wrongNames are no names.
func wrongNames() []string {
	return []string{"", "x", "\x01x", "\x02x\x00", "x.", "\x00\x00", "\x01x\x00\x00", "\x40" + strings.Repeat("a", 64) + "\x00", "\x01a" + longest, "\x02aa" + longest[2:]}
}

// wrongNumbers are no types.
func wrongNumbers() []int { return []int{-1, 65536, -1 << 63, 1<<63 - 1} }

// must is what a call answers that is not to fail.
func must[T any](x T, e api.Errno) T {
	if e != api.OK {
		panic(e)
	}
	return x
}

func named(text string) string { return must(name.Parse(text)) }

// kindOf is the type that a word tells.
func kindOf(word string) int { return must(data.TypeOf(word)) }

// record is told as its name, TTL, type and data.
func record(line string) api.Record {
	part := strings.SplitN(line, " ", 4)
	ttl, err := strconv.Atoi(part[1])
	if err != nil {
		panic(err)
	}
	kind := kindOf(part[2])
	return api.Record{Name: named(part[0]), Type: kind, Class: api.IN, TTL: ttl, Data: must(data.Read(kind, part[3]))}
}

// records are told a line each.
func records(text string) []api.Record {
	var list []api.Record
	for line := range strings.Lines(text) {
		if line = strings.TrimSpace(line); line != "" {
			list = append(list, record(line))
		}
	}
	return list
}

// zoneOf is a zone of these records.
func zoneOf(apex, text string) api.Zone { return api.Zone{Apex: named(apex), Records: records(text)} }

// sign is the line of a signature.
func sign(n, covered, letters string) string {
	return "\n" + n + " 60 RRSIG " + covered + " 8 1 60 9 8 7 x. " + letters + "\n"
}

// kinds are the words for what a zone answers.
func kinds() []string {
	return []string{"nothing", "Answer", "Referral", "NoData", "NXDomain", "Outside", "Cname"}
}

// told is a set as a line: its name, TTL, type, data, and signatures (the last part of each).
func told(s api.Set) string {
	line := must(name.Text(s.Name)) + " " + strconv.Itoa(s.TTL) + " " + must(data.TypeText(s.Type))
	for _, d := range s.Data {
		line += " " + must(data.Text(s.Type, d))
	}
	for _, d := range s.Sigs {
		text := must(data.Text(api.TypeRRSIG, d))
		line += " " + strings.ToUpper(text[strings.LastIndex(text, " ")+1:])
	}
	if s.Class != api.IN {
		line += " of another class"
	}
	return line
}

// answered is an answer as lines, that stand as in a list of what is wanted.
func answered(a zone.Answer) string {
	text := kinds()[a.Kind] + "\n"
	if a.Wild != "" {
		text += "wild " + must(name.Text(a.Wild)) + "\n"
	}
	if a.To != "" {
		text += "to " + must(name.Text(a.To)) + "\n"
	}
	for _, s := range a.Answer {
		text += "an " + told(s) + "\n"
	}
	for _, s := range a.Authority {
		text += "au " + told(s) + "\n"
	}
	for _, s := range a.Extra {
		text += "ex " + told(s) + "\n"
	}
	return text
}

// question is what is asked: a name, a type, and "do", if that is asked, too.
type question struct {
	n    string
	kind int
	do   bool
}

func asked(text string) question {
	part := strings.Fields(text)
	return question{named(part[0]), kindOf(part[1]), len(part) > 2}
}

// want is what is asked, and the answer's lines.
type want struct{ ask, answer string }

// answers holds a zone's answers against those that are wanted.
func answers(t *testing.T, z api.Zone, list ...want) {
	t.Helper()
	if !zone.Right(z) {
		t.Fatalf("%+v is not right", z)
	}
	for _, w := range list {
		q := asked(w.ask)
		a, e := zone.Lookup(z, q.n, q.kind, q.do)
		lines := strings.Split(strings.TrimSpace(w.answer), "\n")
		for i := range lines {
			lines[i] = strings.TrimSpace(lines[i])
		}
		if got := answered(a); e != api.OK || got != strings.Join(lines, "\n")+"\n" {
			t.Errorf("%s: %v\n%swant:\n%s", w.ask, e, got, strings.Join(lines, "\n"))
		}
	}
}
