package local_test

import (
	"math/rand"
	"slices"
	"strconv"
	"strings"

	"guidepost/api"
	"guidepost/data"
	"guidepost/local"
	"guidepost/name"
	"guidepost/rrset"
)

// slowRecord is a slow second reading of which records a zone may have, as the chapters say it.
func slowRecord(r api.Record, z api.Local) bool {
	switch {
	case !name.Right(r.Name), !data.Right(r.Type, r.Data), r.TTL < 0, r.TTL > 1<<32-1, r.Class != 1:
		return false
	case r.Type == 5, r.Type == 39, r.Type == 46, r.Type == 41:
		return false
	case z.Kind == api.LDeny, z.Kind == api.LRefuse:
		return false
	case z.Kind == api.LRedirect:
		return strings.EqualFold(must(name.Text(r.Name)), must(name.Text(z.Name)))
	}
	return slowUnder(r.Name, z.Name)
}

// slowUnder is one of which names are under others, of names without odd bytes.
func slowUnder(a, b string) bool {
	if !name.Right(a) || !name.Right(b) {
		return false
	}
	low, end := strings.ToLower(must(name.Text(a))), strings.ToLower(must(name.Text(b)))
	return end == "." || low == end || strings.HasSuffix(low, "."+end)
}

// slowRight is one of which zones may be.
func slowRight(list []api.Local) bool {
	for i, z := range list {
		if !name.Right(z.Name) || z.Kind < 1 || z.Kind > 5 || len(z.Records) > 200 {
			return false
		}
		for _, other := range list[:i] {
			if strings.EqualFold(other.Name, z.Name) {
				return false
			}
		}
		for _, r := range z.Records {
			if !slowRecord(r, z) {
				return false
			}
		}
	}
	return true
}

// slowZone is one of Zone: the place of the zone in the list, or -1.
func slowZone(list []api.Local, n string) int {
	best := -1
	for i, z := range list {
		if slowUnder(n, z.Name) && (best < 0 || len(name.Labels(z.Name)) > len(name.Labels(list[best].Name))) {
			best = i
		}
	}
	return best
}

// slowAnswer is one of Answer, as answered tells it: over all sets of the zone.
func slowAnswer(list []api.Local, n string, kind int) string {
	place := slowZone(list, n)
	if place < 0 {
		return "Pass"
	}
	z := list[place]
	text, there := "", slowUnder(z.Name, n)
	for _, s := range rrset.Sets(z.Records) {
		there = there || slowUnder(s.Name, n)
		own := z.Kind == api.LRedirect || strings.EqualFold(s.Name, n)
		if own && (kind == 255 || kind == s.Type) {
			s.Name = n
			text += ", " + told(s)
		}
	}
	switch {
	case z.Kind == api.LDeny:
		return "Drop"
	case z.Kind == api.LRefuse:
		return "Refuse"
	case text != "":
		return "Data" + text
	case there || z.Kind == api.LRedirect:
		return "Empty"
	case z.Kind == api.LStatic:
		return "Nobody"
	}
	return "Pass"
}

func pick[T any](r *rand.Rand, list ...T) T { return list[r.Intn(len(list))] }

// drawnCase is a text some of whose letters are great.
func drawnCase(r *rand.Rand, s string) string {
	b := []byte(s)
	for i, c := range b {
		if 'a' <= c && c <= 'z' && r.Intn(5) == 0 {
			b[i] = c - 32
		}
	}
	return string(b)
}

// drawnName is one of few, under this one.
func drawnName(r *rand.Rand, under string) string {
	n := strings.TrimPrefix(under, ".")
	for range r.Intn(4) {
		n = pick(r, "a", "b", "ab", "*") + "." + n
	}
	if n == "" {
		return "."
	}
	return drawnCase(r, n)
}

// drawnRecord is one that a zone may have, or nearly.
func drawnRecord(r *rand.Rand, z api.Local) api.Record {
	at := must(name.Text(z.Name))
	n := drawnName(r, at)
	if z.Kind == api.LRedirect {
		n = drawnCase(r, at)
	}
	x := record(n + " " + pick(r, "0", "5", "60", "2147483648") + " A 10.0.0." + strconv.Itoa(r.Intn(3)))
	if r.Intn(3) == 0 {
		x.Type, x.Data = pick(r, api.TypeTXT, api.TypeANY, 65280), pick(r, "\x01a", "\x01A", "\x00")
	}
	return x
}

// spoil changes a record, mostly so that it may not be.
func spoil(r *rand.Rand, x *api.Record) {
	switch r.Intn(5) {
	case 0:
		x.Class = pick(r, 0, 1, 3, -1, 65537)
	case 1:
		x.TTL = pick(r, -1, 1<<32-1, 1<<32)
	case 2:
		x.Data = pick(r, "", "?", "\x01s\x00", "abcd")
	case 3:
		x.Type, x.Data = pick(r, 5, 39, 41, 46, 65536, -1, 2, 40), "\x01s\x00"
	case 4:
		x.Name = pick(r, append(wrongNames(), "\x00", named("a.b."), named("t."))...)
	}
}

// drawnLocals are some zones, mostly right.
func drawnLocals(r *rand.Rand) []api.Local {
	var list []api.Local
	for range r.Intn(6) {
		z := api.Local{Name: named(drawnName(r, pick(r, ".", "s.", "s.", "t."))), Kind: 1 + r.Intn(5)}
		for range r.Intn(8) {
			if z.Kind > api.LRefuse {
				z.Records = append(z.Records, drawnRecord(r, z))
			}
		}
		if more := append(slices.Clone(list), z); slowRight(more) || r.Intn(20) == 0 {
			list = more
		}
	}
	if len(list) == 0 || r.Intn(4) > 0 {
		return list
	}
	switch z := &list[r.Intn(len(list))]; {
	case r.Intn(4) == 0:
		z.Kind = r.Intn(7)
	case len(z.Records) > 0:
		spoil(r, &z.Records[r.Intn(len(z.Records))])
	default:
		z.Name = pick(r, wrongNames()...)
	}
	return list
}

// drawnAsk is a name and a type, near what zones have.
func drawnAsk(r *rand.Rand, list []api.Local) (string, int) {
	kind := pick(r, api.TypeA, api.TypeA, api.TypeTXT, api.TypeANY, 65280, api.TypeCNAME, -1)
	if r.Intn(40) == 0 {
		return pick(r, wrongNames()...), kind
	}
	if len(list) == 0 || r.Intn(4) == 0 {
		return named(drawnName(r, pick(r, ".", "s.", "t."))), kind
	}
	z := list[r.Intn(len(list))]
	n := z.Name
	if len(z.Records) > 0 {
		n = z.Records[r.Intn(len(z.Records))].Name
	}
	if up, e := name.Parent(n); e == api.OK && r.Intn(3) == 0 {
		n = up
	}
	if r.Intn(4) == 0 {
		n = named(drawnName(r, must(name.Text(n))))
	}
	return must(name.Cased(n, r.Uint64())), kind
}

// agree is whether zones tell of a name and a type what a slow reading does.
func agree(x *local.Locals, list []api.Local, n string, kind int) bool {
	z, found := x.Zone(n)
	place := slowZone(list, n)
	if place < 0 && (z != "" || found) || place >= 0 && (z != list[place].Name || !found) {
		return false
	}
	return answered(x, n, kind) == slowAnswer(list, n, kind)
}
