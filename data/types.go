package data

import (
	"strings"

	"guidepost/api"
)

// maxBits is how many bytes of bits a window may have.
const maxBits = 32

// typesPart is a list of types: all the bytes, all the words that are left.
func typesPart() part {
	return part{
		pass: func(r *reader) { typesOf(r.all()) },
		tell: tellTypes,
		read: readTypes,
	}
}

func tellTypes(piece string) string {
	var words []string
	for _, kind := range typesOf(piece) {
		words = append(words, tellType(kind))
	}
	return strings.Join(words, " ")
}

func readTypes(r *reader) string {
	list := newTypeList()
	for r.rest != "" {
		list.add(readType(r.word()))
	}
	return string(list.wire)
}

func tellType(kind int) string {
	text, e := TypeText(kind)
	must(e == api.OK)
	return text
}

func readType(text string) int {
	kind, e := TypeOf(text)
	must(e == api.OK)
	return kind
}

// typesOf is the list of types that bytes put down.
func typesOf(piece string) []int {
	r := &reader{piece}
	var list []int
	last := -1
	for r.rest != "" {
		window, bits := number(r.take(1)), r.counted()
		must(window > last && bits != "" && len(bits) <= maxBits && bits[len(bits)-1] != 0)
		last = window
		for n := range 8 * len(bits) {
			if bits[n/8]>>(7-n%8)&1 == 1 {
				list = append(list, window<<8|n)
			}
		}
	}
	return list
}

// bytesOfTypes is a list of types as bytes.
func bytesOfTypes(types []int) string {
	list := newTypeList()
	for _, kind := range types {
		list.add(kind)
	}
	return string(list.wire)
}

// typeList is a list of types in the making, as bytes. Since the types rise, only its last window grows.
type typeList struct {
	wire []byte
	bits int // where the bits of the last window begin
	last int
}

func newTypeList() *typeList {
	return &typeList{last: -1}
}

func (l *typeList) add(kind int) {
	must(isType(kind) && kind > l.last)
	if kind>>8 != l.last>>8 {
		l.wire = append(l.wire, byte(kind>>8), 0)
		l.bits = len(l.wire)
	}
	at := l.bits + (kind&255)/8
	for len(l.wire) <= at {
		l.wire = append(l.wire, 0)
	}
	l.wire[at] |= 1 << (7 - kind%8)
	l.wire[l.bits-1] = byte(len(l.wire) - l.bits)
	l.last = kind
}
