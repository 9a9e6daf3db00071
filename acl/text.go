package acl

import (
	"strconv"
	"strings"

	"guidepost/api"
)

// shape is how addresses of a kind are told: as many parts, each of as many bits and in this base, with a mark between.
type shape struct {
	mark              string
	parts, bits, base int
}

func shapeOf(v6 bool) shape {
	if v6 {
		return shape{":", 8, 16, 16}
	}
	return shape{".", 4, 8, 10}
}

// Text is how an address is told.
func Text(a api.Addr) (string, api.Errno) {
	if !Right(a) {
		return "", api.ErrArg
	}
	s := shapeOf(a.V6)
	parts := make([]string, s.parts)
	for i := range parts {
		parts[i] = strconv.FormatUint(piece(a, i*s.bits, s.bits), s.base)
	}
	return strings.Join(parts, s.mark), api.OK
}

// Parse is the address that a text tells.
func Parse(text string) (api.Addr, api.Errno) {
	a, ok := read(text)
	// More than Text tells can be read as a number: noughts ahead, great letters.
	if again, _ := Text(a); !ok || again != text {
		return api.Addr{}, api.ErrText
	}
	return a, api.OK
}

// read is the address that a text's parts tell, however they tell it, if there are as many as it must have.
func read(text string) (api.Addr, bool) {
	a := api.Addr{V6: strings.Contains(text, ":")}
	s := shapeOf(a.V6)
	parts := strings.SplitN(text, s.mark, s.parts+1)
	for _, p := range parts {
		n, e := strconv.ParseUint(p, s.base, s.bits)
		if e != nil {
			return api.Addr{}, false
		}
		a = moved(a, s.bits, n)
	}
	return a, len(parts) == s.parts
}

// moved is an address moved up by as many bits, with n in their place.
func moved(a api.Addr, bits int, n uint64) api.Addr {
	return api.Addr{V6: a.V6, Hi: a.Hi<<bits | a.Lo>>(64-bits), Lo: a.Lo<<bits | n}
}
