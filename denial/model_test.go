package denial_test

import (
	"slices"
	"strings"

	"guidepost/api"
	"guidepost/data"
	"guidepost/denial"
	"guidepost/digest"
	"guidepost/rrset"
)

// A slow second reading of the chapter: names are their labels from the right, in small letters, so that the order of lists is the order of names.

// path is a name's labels from the right.
func path(n string) []string {
	p := []string{}
	for n != root {
		p = append([]string{small(n[1 : 1+n[0]])}, p...)
		n = n[1+n[0]:]
	}
	return p
}

// wired is the name of a path.
func wired(p []string) string {
	n := root
	for _, label := range p {
		n = string([]byte{byte(len(label))}) + label + n
	}
	return n
}

func isUnder(a, b []string) bool { return len(a) >= len(b) && slices.Equal(a[:len(b)], b) }

func common(a, b []string) []string {
	for i := range a {
		if i == len(b) || a[i] != b[i] {
			return a[:i]
		}
	}
	return a
}

func starred(p []string) []string { return append(slices.Clone(p), "*") }

// ring is whether n is between a and b, on a ring where b is not behind a.
func ring[T any](a, n, b T, order func(T, T) int) bool {
	switch order(a, b) {
	case -1:
		return order(a, n) < 0 && order(n, b) < 0
	case 0:
		return order(a, n) != 0
	}
	return !(order(b, n) <= 0 && order(n, a) <= 0)
}

// fact is a set that counts: of NSEC with paths, of NSEC3 with hashes.
type fact struct {
	owner, next []string
	own, then   string
	types       []int
	flag        bool
}

// model is what counts.
type model struct {
	apex   []string
	three  bool
	salt   string
	rounds int
	facts  []fact
}

func modelOf(l []api.Set, apex string) model {
	m := model{apex: path(apex)}
	for _, s := range l {
		if s.Type == api.TypeNSEC && usable(s, m.apex) {
			d, _ := data.Nsec(s.Data[0])
			m.facts = append(m.facts, fact{owner: path(s.Name), next: path(d.Next), types: d.Types})
		}
	}
	if len(m.facts) > 0 {
		return m
	}
	m.three = true
	for _, s := range l {
		if s.Type != api.TypeNSEC3 || !usable(s, m.apex) {
			continue
		}
		p := path(s.Name)
		d, _ := data.Nsec3(s.Data[0])
		if len(p) != len(m.apex)+1 || len(p[len(p)-1]) != 32 || strings.Trim(p[len(p)-1], "0123456789abcdefghijklmnopqrstuv") != "" {
			continue
		}
		if d.Alg != 1 || d.Flags > 1 || d.Rounds > 150 || len(d.Next) != 20 {
			continue
		}
		if m.facts == nil {
			m.salt, m.rounds = d.Salt, d.Rounds
		}
		if m.salt != d.Salt || m.rounds != d.Rounds {
			continue
		}
		h, _ := digest.Unbase32(p[len(p)-1])
		m.facts = append(m.facts, fact{own: h, then: d.Next, types: d.Types, flag: d.Flags == 1})
	}
	return m
}

func usable(s api.Set, apex []string) bool {
	return rrset.Right(s) && s.Class == 1 && len(s.Data) == 1 && isUnder(path(s.Name), apex)
}

func (m model) matches(f fact, n []string) bool {
	if m.three {
		return f.own == sum(wired(n), m.salt, m.rounds)
	}
	return slices.Equal(f.owner, n)
}

func (m model) covers(f fact, n []string) bool {
	if m.three {
		return ring(f.own, sum(wired(n), m.salt, m.rounds), f.then, strings.Compare)
	}
	ns, soa, dname := slices.Contains(f.types, kindNS), slices.Contains(f.types, kindSOA), slices.Contains(f.types, kindDNAME)
	if (ns && !soa || dname) && isUnder(n, f.owner) {
		return false
	}
	return ring(f.owner, n, f.next, slices.Compare[[]string])
}

// first is the first one that is so; nil, if there is none.
func (m model) first(n []string, so func(fact, []string) bool) *fact {
	for i, f := range m.facts {
		if so(f, n) {
			return &m.facts[i]
		}
	}
	return nil
}

func (m model) lacks(f fact, kind int) bool {
	has := func(k int) bool { return slices.Contains(f.types, k) }
	switch {
	case has(kind), has(kindCNAME):
		return false
	case kind == kindDS && !m.three && len(f.owner) == 0:
		return true
	case kind == kindDS:
		return !has(kindSOA)
	}
	return !has(kindNS) || has(kindSOA)
}

// encloser is of NSEC by the set that covers, of NSEC3 by what matches; nil, if there is none.
func (m model) encloser(n []string, f *fact) []string {
	if !m.three {
		a, b := common(n, f.owner), common(n, f.next)
		return n[:max(len(a), len(b))]
	}
	for i := len(n) - 1; i >= len(m.apex); i-- {
		if m.first(n[:i], m.matches) != nil {
			return n[:i]
		}
	}
	return nil
}

func value(proved, flag bool) int {
	switch {
	case !proved:
		return denial.None
	case flag:
		return denial.OptOut
	}
	return denial.Proved
}

// of is what the second reading answers.
func (m model) of(q asked) int {
	n := path(q.n)
	if !isUnder(n, m.apex) {
		return denial.None
	}
	if m.three {
		return m.of3(q, n)
	}
	match, cover := m.first(n, m.matches), m.first(n, m.covers)
	switch q.call {
	case "Name":
		return value(cover != nil && !isUnder(cover.next, n) && m.first(starred(m.encloser(n, cover)), m.covers) != nil, false)
	case "Type":
		switch {
		case match != nil:
			return value(m.lacks(*match, q.kind), false)
		case cover == nil:
			return denial.None
		case isUnder(cover.next, n):
			return denial.Proved
		}
		wild := m.first(starred(m.encloser(n, cover)), m.matches)
		return value(wild != nil && m.lacks(*wild, q.kind), false)
	case "Wild":
		from := path(q.from)
		if !isUnder(n, from) || len(n) == len(from) || !isUnder(from, m.apex) {
			return denial.None
		}
		return value(slices.ContainsFunc(m.facts, func(f fact) bool {
			return m.covers(f, n) && !isUnder(f.next, n) && len(m.encloser(n, &f)) <= len(from)
		}), false)
	}
	return value(len(n) > len(m.apex) && match != nil && m.cut(match), false)
}

func (m model) cut(f *fact) bool {
	return slices.Contains(f.types, kindNS) && !slices.Contains(f.types, kindDS) && !slices.Contains(f.types, kindSOA)
}

// of3 is the same by NSEC3.
func (m model) of3(q asked, n []string) int {
	match, encloser := m.first(n, m.matches), m.encloser(n, nil)
	var cover *fact
	if encloser != nil {
		cover = m.first(n[:len(encloser)+1], m.covers)
	}
	switch q.call {
	case "Name":
		if match != nil || cover == nil || m.first(starred(encloser), m.covers) == nil {
			return denial.None
		}
		return value(true, cover.flag)
	case "Type":
		switch {
		case match != nil:
			return value(m.lacks(*match, q.kind), false)
		case cover == nil:
			return denial.None
		case q.kind == kindDS && cover.flag:
			return denial.OptOut
		}
		wild := m.first(starred(encloser), m.matches)
		return value(wild != nil && m.lacks(*wild, q.kind), cover.flag)
	case "Wild":
		from := path(q.from)
		if !isUnder(n, from) || len(n) == len(from) || !isUnder(from, m.apex) {
			return denial.None
		}
		near := m.first(n[:len(from)+1], m.covers)
		return value(near != nil, near != nil && near.flag)
	}
	switch {
	case len(n) == len(m.apex):
		return denial.None
	case match != nil:
		return value(m.cut(match), false)
	}
	return value(cover != nil && cover.flag, true)
}
