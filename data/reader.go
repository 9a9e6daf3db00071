package data

import (
	"strings"

	"guidepost/api"
)

// reader takes bytes off the front of data, or of a text. Who takes more than there are panics: so no part of a form needs to
// ask at every step, and the faces, by sound, recover.
type reader struct {
	rest string
}

func (r *reader) take(count int) string {
	must(count <= len(r.rest))
	taken := r.rest[:count]
	r.rest = r.rest[count:]
	return taken
}

func (r *reader) all() string {
	return r.take(len(r.rest))
}

// counted takes bytes behind a byte that is their number.
func (r *reader) counted() string {
	return r.take(number(r.take(1)))
}

// word takes what stands ahead of the next blank, and the blank.
func (r *reader) word() string {
	word, rest, _ := strings.Cut(r.rest, " ")
	r.rest = rest
	return word
}

// must panics inside, unless all is as its form asks.
func must(ok bool) {
	if !ok {
		panic(api.ErrData)
	}
}

// sound tells whether work came to its end without a panic.
func sound(work func()) (ok bool) {
	defer func() {
		if recover() != nil {
			ok = false
		}
	}()
	work()
	return true
}
