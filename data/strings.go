package data

import (
	"strconv"
	"strings"
)

// Bytes of a string outside of these are told by their numbers.
const (
	firstPlain = 32
	lastPlain  = 126
)

// stringsPart is one string or more: all that is left.
func stringsPart() part {
	return part{pass: passStrings, tell: tellStrings, read: readStrings}
}

func passStrings(r *reader) {
	r.counted()
	for r.rest != "" {
		r.counted()
	}
}

func tellStrings(piece string) string {
	r := &reader{piece}
	var words []string
	for r.rest != "" {
		words = append(words, tellString(r.counted()))
	}
	return strings.Join(words, " ")
}

func tellString(s string) string {
	text := []byte{'"'}
	for i := range len(s) {
		text = appendTold(text, s[i])
	}
	return string(append(text, '"'))
}

func appendTold(text []byte, b byte) []byte {
	switch {
	case b == '"' || b == '\\':
		return append(text, '\\', b)
	case b >= firstPlain && b <= lastPlain:
		return append(text, b)
	}
	return append(text, '\\', '0'+b/100, '0'+b/10%10, '0'+b%10)
}

func readStrings(r *reader) string {
	piece := []byte(counted(readString(r)))
	for r.rest != "" {
		must(r.take(1) == " ")
		piece = append(piece, counted(readString(r))...)
	}
	return string(piece)
}

func readString(r *reader) string {
	must(r.take(1) == `"`)
	var s []byte
	for {
		switch next := r.take(1); next {
		case `"`:
			return string(s)
		case `\`:
			s = append(s, readMarked(r))
		default:
			s = append(s, next[0])
		}
	}
}

// readMarked is the byte that is told behind a backslash.
func readMarked(r *reader) byte {
	if r.rest != "" && (r.rest[0] == '"' || r.rest[0] == '\\') {
		return r.take(1)[0]
	}
	b, err := strconv.ParseUint(r.take(3), 10, 8)
	must(err == nil)
	return byte(b)
}
