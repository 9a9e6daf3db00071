package wire

import (
	"slices"

	"guidepost/api"
	"guidepost/data"
)

// writer puts a message together, and knows where it put each name and each end of a name first.
type writer struct {
	out    []byte
	places map[string]int
}

// written is a message that can be told as bytes, however many these are.
func written(m api.Message) string {
	extra := m.Extra
	if m.Edns.Has {
		extra = slices.Concat(m.Extra, []api.Record{optOf(m)})
	}
	w := &writer{places: map[string]int{}}
	w.head(m, [4]int{len(m.Ask), len(m.Answer), len(m.Authority), len(extra)})
	for _, q := range m.Ask {
		w.question(q)
	}
	for _, section := range [][]api.Record{m.Answer, m.Authority, extra} {
		for _, x := range section {
			w.record(x)
		}
	}
	return string(w.out)
}

func (w *writer) bytes(s string) {
	w.out = append(w.out, s...)
}

// number puts down a number as so many bytes, the greatest first.
func (w *writer) number(n, width int) {
	for width > 0 {
		width--
		w.out = append(w.out, byte(n>>(8*width)))
	}
}

func (w *writer) question(q api.Question) {
	w.name(q.Name)
	w.number(q.Type, 2)
	w.number(q.Class, 2)
}

func (w *writer) record(x api.Record) {
	w.name(x.Name)
	w.number(x.Type, 2)
	w.number(x.Class, 2)
	w.number(x.TTL, 4)
	w.data(x.Type, x.Data)
}

// data puts down data behind their length, which is not known before their names are written.
func (w *writer) data(kind int, d string) {
	at := len(w.out)
	w.number(0, 2)
	ahead, count := namesIn(kind)
	names := data.Names(kind, d)[:count]
	w.bytes(d[:ahead])
	d = d[ahead:]
	for _, n := range names {
		w.name(n)
		d = d[len(n):]
	}
	w.bytes(d)
	size := len(w.out) - at - 2
	w.out[at], w.out[at+1] = byte(size>>8), byte(size)
}
