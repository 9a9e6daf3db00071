package wire_test

import (
	"guidepost/api"
	"guidepost/data"
)

// What Write and Parse should answer, made in a slow and simple way.

// written is a name, or the end of one, and where it stands.
type written struct {
	name  string
	place int
}

// slow is a message in the making.
type slow struct {
	out  string
	list []written
}

func (w *slow) name(n string) {
	for n != root {
		for _, x := range w.list {
			if x.name == n && x.place < 16384 {
				w.out += to(x.place)
				return
			}
		}
		w.list = append(w.list, written{n, len(w.out)})
		w.out += n[:1+n[0]]
		n = n[1+n[0]:]
	}
	w.out += root
}

// firstName is the name at the beginning of bytes.
func firstName(d string) string {
	at := 0
	for d[at] != 0 {
		at += 1 + int(d[at])
	}
	return d[:at+1]
}

func (w *slow) record(x api.Record) {
	w.name(x.Name)
	w.out += u16(x.Type) + u16(x.Class) + u16(x.TTL>>16) + u16(x.TTL)
	inner := slow{out: w.out + u16(0), list: w.list}
	first := len(inner.out)
	d := x.Data
	names := map[int]int{api.TypeNS: 1, api.TypeCNAME: 1, api.TypeMX: 1, api.TypeSOA: 2}[x.Type]
	if x.Type == api.TypeMX {
		inner.out += d[:2]
		d = d[2:]
	}
	for range names {
		n := firstName(d)
		inner.name(n)
		d = d[len(n):]
	}
	inner.out += d
	w.out += u16(len(inner.out)-first) + inner.out[first:]
	w.list = inner.list
}

func slowWrite(m api.Message) string {
	flags := m.Op<<11 | m.Rcode%16
	for bit, on := range map[int]bool{15: m.Reply, 10: m.AA, 9: m.TC, 8: m.RD, 7: m.RA, 5: m.AD, 4: m.CD} {
		if on {
			flags |= 1 << bit
		}
	}
	extras := len(m.Extra)
	if m.Edns.Has {
		extras++
	}
	w := slow{out: u16(m.ID) + u16(flags) + u16(len(m.Ask)) + u16(len(m.Answer)) + u16(len(m.Authority)) + u16(extras)}
	for _, q := range m.Ask {
		w.name(q.Name)
		w.out += u16(q.Type) + u16(q.Class)
	}
	for _, list := range [][]api.Record{m.Answer, m.Authority, m.Extra} {
		for _, x := range list {
			w.record(x)
		}
	}
	if m.Edns.Has {
		do := 0
		if m.Edns.Do {
			do = 32768
		}
		w.out += root + u16(api.TypeOPT) + u16(m.Edns.Size) + u16(m.Rcode/16*256+m.Edns.Version) + u16(do) + u16(len(m.Edns.Options)) + m.Edns.Options
	}
	return w.out
}

func need(ok bool) {
	if !ok {
		panic("not right")
	}
}

func at16(s string, at int) int {
	return int(s[at])<<8 | int(s[at+1])
}

// slowName is the name at a place, and the place behind it.
func slowName(s string, at int) (string, int) {
	n, began := "", at
	for {
		switch size := int(s[at]); {
		case size == 0:
			need(len(n) < 255)
			return n + root, at + 1
		case size < 64:
			n += s[at : at+1+size]
			at += 1 + size
		default:
			place := at16(s, at) - 49152
			need(place >= 0 && place < began)
			rest, _ := slowName(s, place)
			need(len(n)+len(rest) <= 255)
			return n + rest, at + 2
		}
	}
}

func slowRecord(s string, at int) (api.Record, int) {
	n, at := slowName(s, at)
	x := api.Record{Name: n, Type: at16(s, at), Class: at16(s, at+2), TTL: at16(s, at+4)<<16 | at16(s, at+6)}
	end := at + 10 + at16(s, at+8)
	at += 10
	need(end <= len(s))
	names := map[int]int{api.TypeNS: 1, api.TypeCNAME: 1, api.TypeMX: 1, api.TypeSOA: 2}[x.Type]
	if x.Type == api.TypeMX {
		x.Data = s[at : at+2]
		at += 2
	}
	for range names {
		need(at < end)
		n, behind := slowName(s, at)
		x.Data += n
		at = behind
	}
	need(at <= end)
	x.Data += s[at:end]
	need(data.Right(x.Type, x.Data))
	return x, end
}

// slowParse is a message of at least 12 bytes, if it is one.
func slowParse(s string) (m api.Message, ok bool) {
	defer func() {
		if recover() != nil {
			m, ok = api.Message{}, false
		}
	}()
	flag := func(bit int) bool { return at16(s, 2)>>bit&1 == 1 }
	m = api.Message{ID: at16(s, 0), Reply: flag(15), Op: at16(s, 2) >> 11 & 15, AA: flag(10), TC: flag(9), RD: flag(8), RA: flag(7), AD: flag(5), CD: flag(4), Rcode: at16(s, 2) & 15}
	at := 12
	need(at16(s, 4) < 2)
	for range at16(s, 4) {
		n, behind := slowName(s, at)
		m.Ask = append(m.Ask, api.Question{Name: n, Type: at16(s, behind), Class: at16(s, behind+2)})
		at = behind + 4
	}
	for section, list := range []*[]api.Record{&m.Answer, &m.Authority, &m.Extra} {
		count := at16(s, 6+2*section)
		need(count <= 200)
		for range count {
			var x api.Record
			x, at = slowRecord(s, at)
			if x.Type != api.TypeOPT {
				*list = append(*list, x)
				continue
			}
			need(section == 2 && x.Name == root && !m.Edns.Has && slowOptions(x.Data))
			m.Rcode += x.TTL >> 24 * 16
			m.Edns = api.Edns{Has: true, Size: x.Class, Do: x.TTL&32768 != 0, Version: x.TTL >> 16 & 255, Options: x.Data}
		}
	}
	need(at == len(s))
	return m, true
}

// slowQuestion is the question behind the header, if it is one.
func slowQuestion(s string) (q api.Question, ok bool) {
	defer func() {
		if recover() != nil {
			ok = false
		}
	}()
	n, at := slowName(s, 12)
	return api.Question{Name: n, Type: at16(s, at), Class: at16(s, at+2)}, true
}

func slowOptions(d string) bool {
	for d != "" {
		if len(d) < 4 || len(d) < 4+at16(d, 2) {
			return false
		}
		d = d[4+at16(d, 2):]
	}
	return true
}
