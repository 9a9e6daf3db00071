package wire

import (
	"guidepost/api"
	"guidepost/data"
)

// reader takes bytes off a message, up to an end: the message's, or that of a record's data. Whatever is not right makes it bad,
// and it stays so: who reads on gets noughts and no bytes, and asks in the end.
type reader struct {
	s       string
	at, end int
	bad     bool
}

func newReader(s string) *reader {
	return &reader{s: s, end: len(s)}
}

func (r *reader) take(count int) string {
	if r.bad || count > r.end-r.at {
		r.bad = true
		return ""
	}
	taken := r.s[r.at : r.at+count]
	r.at += count
	return taken
}

// number takes a number of so many bytes, the greatest first.
func (r *reader) number(width int) int {
	n := 0
	for _, b := range []byte(r.take(width)) {
		n = n<<8 | int(b)
	}
	return n
}

// questions takes so many questions, of which there may be one; if it is not right, none.
func (r *reader) questions(count int) []api.Question {
	if count > maxAsks {
		r.bad = true
	}
	var list []api.Question
	for range count {
		q := api.Question{Name: r.name(), Type: r.number(2), Class: r.number(2)}
		if r.bad {
			return nil
		}
		list = append(list, q)
	}
	return list
}

func (r *reader) records(count int) []api.Record {
	if count > api.MaxRecords {
		r.bad = true
	}
	var list []api.Record
	for range count {
		x := r.record()
		if r.bad {
			return nil
		}
		list = append(list, x)
	}
	return list
}

func (r *reader) record() api.Record {
	x := api.Record{Name: r.name(), Type: r.number(2), Class: r.number(2), TTL: r.number(4)}
	x.Data = r.data(x.Type, r.number(2))
	return x
}

// data takes data of so many bytes, and makes their names whole. A name must end within the data; what its pointers lead to may
// stand anywhere ahead.
func (r *reader) data(kind, size int) string {
	within := reader{s: r.s, at: r.at, end: r.at + size}
	r.take(size)
	if r.bad {
		return ""
	}
	ahead, count := namesIn(kind)
	d := []byte(within.take(ahead))
	for range count {
		d = append(d, within.name()...)
	}
	d = append(d, within.take(within.end-within.at)...)
	whole := string(d)
	r.bad = within.bad || !data.Right(kind, whole)
	return whole
}
