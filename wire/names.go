package wire

import "guidepost/api"

// root is the name without labels.
const root = "\x00"

// A pointer is pointerMark and a place below placeLimit.
const (
	pointerMark = 49152
	placeLimit  = 1 << 14
)

// noPlace is where a name goes on that does not end with a pointer.
const noPlace = -1

// namesIn tells where names stand in data that may have pointers in them: behind how many bytes, and how many names.
func namesIn(kind int) (ahead, count int) {
	switch kind {
	case api.TypeNS, api.TypeCNAME:
		return 0, 1
	case api.TypeSOA:
		return 0, 2
	case api.TypeMX:
		return 2, 1
	}
	return 0, 0
}

// name takes a name, with what its pointers lead to. Each part begins ahead of the one that led to it, so there is an end.
func (r *reader) name() string {
	began := r.at
	n, place := r.part(nil)
	for place != noPlace {
		if place >= began {
			r.bad = true
			return ""
		}
		began = place
		there := reader{s: r.s, at: place, end: len(r.s)}
		n, place = there.part(n)
		r.bad = r.bad || there.bad
	}
	return string(n)
}

// part takes labels, onto those of the parts ahead, and where the name goes on. It stops at what is too long for a name: many
// pointers to many labels would take long to put together.
func (r *reader) part(n []byte) ([]byte, int) {
	for !r.bad && len(n) < api.MaxName {
		size := r.number(1)
		if size >= pointerMark>>8 {
			return n, size<<8 + r.number(1) - pointerMark
		}
		if size > api.MaxLabel {
			break
		}
		n = append(n, byte(size))
		n = append(n, r.take(size)...)
		if size == 0 {
			return n, noPlace
		}
	}
	r.bad = true
	return nil, noPlace
}

// name puts down a name, its end as a pointer, if that stands somewhere already. All ends of one name differ in length, so no
// pointer leads into the name that it ends.
func (w *writer) name(n string) {
	for n != root {
		if place, ok := w.places[n]; ok {
			w.number(pointerMark+place, 2)
			return
		}
		if len(w.out) < placeLimit {
			w.places[n] = len(w.out)
		}
		label := 1 + int(n[0])
		w.bytes(n[:label])
		n = n[label:]
	}
	w.bytes(root)
}
