package local_test

import (
	"slices"
	"strconv"
	"strings"
	"testing"

	"guidepost/api"
	"guidepost/data"
	"guidepost/local"
	"guidepost/name"
)

// example is the zones of the chapter's examples, and one that is denied.
const example = `
static s.
a.b.s. 60 A 10.0.0.1
transparent t.
x.t. 60 A 10.0.0.2
redirect r.
r. 60 A 10.0.0.3
refuse no.s.
deny dark.
`

// longest is a name of 255 bytes.
var longest = strings.Repeat("\x01a", 126) + "\x01s\x00"

// wrongNames are no names.
func wrongNames() []string {
	return []string{"", "s", "\x01s", "\x02s\x00", "s.", ".", "\x00\x00", "\x01s\x00\x00", "\x01s\x00a", "\x40" + strings.Repeat("a", 64) + "\x00", "\x01a" + longest, "\x02aa" + longest[2:], "\xc0\x00", "\xff"}
}

// must is what a call answers that is not to fail.
func must[T any](x T, e api.Errno) T {
	if e != api.OK {
		panic(e)
	}
	return x
}

func named(text string) string { return must(name.Parse(text)) }

// kindOf is the type that a word tells.
func kindOf(word string) int { return must(data.TypeOf(word)) }

// record is told as its name, TTL, type and data.
func record(line string) api.Record {
	part := strings.SplitN(line, " ", 4)
	ttl, err := strconv.Atoi(part[1])
	if err != nil {
		panic(err)
	}
	kind := kindOf(part[2])
	return api.Record{Name: named(part[0]), Type: kind, Class: api.IN, TTL: ttl, Data: must(data.Read(kind, part[3]))}
}

// zoneKinds are the words for the Kinds.
func zoneKinds() []string {
	return []string{"", "deny", "refuse", "static", "transparent", "redirect"}
}

// locals reads zones: a line with the Kind and the name of each, and its records in the lines that follow.
func locals(text string) []api.Local {
	var list []api.Local
	for line := range strings.Lines(text) {
		line = strings.TrimSpace(line)
		word, rest, _ := strings.Cut(line, " ")
		if line == "" {
			continue
		}
		if kind := slices.Index(zoneKinds(), word); kind > 0 {
			list = append(list, api.Local{Name: named(rest), Kind: kind})
			continue
		}
		last := &list[len(list)-1]
		last.Records = append(last.Records, record(line))
	}
	return list
}

// of are the local zones of a list that is right.
func of(t *testing.T, list []api.Local) *local.Locals {
	t.Helper()
	x, e := local.New(list)
	if x == nil || e != api.OK {
		t.Fatal(list, x, e)
	}
	return x
}

// told is a set as a line: its name, TTL, type and data.
func told(s api.Set) string {
	line := must(name.Text(s.Name)) + " " + strconv.Itoa(s.TTL) + " " + must(data.TypeText(s.Type))
	for _, d := range s.Data {
		line += " " + must(data.Text(s.Type, d))
	}
	if s.Class != api.IN {
		line += " of another class"
	}
	if len(s.Sigs) != 0 {
		line += " with Sigs"
	}
	return line
}

// whats are the words for what is done.
func whats() []string { return []string{"Pass", "Drop", "Refuse", "Data", "Empty", "Nobody"} }

// answered is what is answered, with a comma ahead of each set.
func answered(x *local.Locals, n string, kind int) string {
	what, sets := x.Answer(n, kind)
	text := whats()[what]
	for _, s := range sets {
		text += ", " + told(s)
	}
	return text
}

// zoned is the zone of a name as a text, or `none`.
func zoned(x *local.Locals, n string) string {
	z, found := x.Zone(n)
	switch {
	case found:
		return must(name.Text(z))
	case z != "":
		return "not nothing"
	}
	return "none"
}

// want is what is asked, `a.s. A`, and the answer.
type want struct{ ask, answer string }

// answers holds what zones answer against what is wanted, twice, so that asking is seen to change nothing.
func answers(t *testing.T, list []api.Local, wants ...want) {
	t.Helper()
	x := of(t, list)
	for _, w := range append(wants, wants...) {
		n, kind, _ := strings.Cut(w.ask, " ")
		if got := answered(x, named(n), kindOf(kind)); got != w.answer {
			t.Errorf("%s: %s\nwant: %s", w.ask, got, w.answer)
		}
	}
}

// copied is a list that shares nothing with this one.
func copied(list []api.Local) []api.Local {
	all := slices.Clone(list)
	for i := range all {
		all[i].Records = slices.Clone(all[i].Records)
	}
	return all
}

// backward is a list with its zones the other way round.
func backward(list []api.Local) []api.Local {
	all := copied(list)
	slices.Reverse(all)
	return all
}
