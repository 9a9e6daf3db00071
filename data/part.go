package data

import (
	"strconv"
	"strings"

	"guidepost/api"
	"guidepost/name"
)

// part is a part of a type's form: what goes past it in data, what tells such a piece, and what takes the piece off a text.
// A piece that has no words is told by nothing.
type part struct {
	pass func(r *reader)
	tell func(piece string) string
	read func(r *reader) string
	name bool
}

// partsOf is a type's form.
func partsOf(kind int) []part {
	u8, u16, u32 := numberPart(1), numberPart(2), numberPart(4)
	switch kind {
	case api.TypeA:
		return []part{groupsPart(4, 1, 10, ".")}
	case api.TypeAAAA:
		return []part{groupsPart(8, 2, 16, ":")}
	case api.TypeNS, api.TypeCNAME, api.TypeDNAME:
		return []part{namePart()}
	case api.TypeSOA:
		return []part{namePart(), namePart(), u32, u32, u32, u32, u32}
	case api.TypeMX:
		return []part{u16, namePart()}
	case api.TypeTXT:
		return []part{stringsPart()}
	case api.TypeDS:
		return []part{u16, u8, u8, hexPart()}
	case api.TypeRRSIG:
		return []part{typePart(), u8, u8, u32, u32, u32, u16, namePart(), hexPart()}
	case api.TypeNSEC:
		return []part{namePart(), typesPart()}
	case api.TypeDNSKEY:
		return []part{u16, u8, u8, hexPart()}
	case api.TypeNSEC3:
		return []part{u8, u8, u16, saltPart(), hashPart(), typesPart()}
	}
	return []part{anyPart()}
}

// numberPart is a number of so many bytes.
func numberPart(width int) part {
	return part{
		pass: func(r *reader) { r.take(width) },
		tell: func(piece string) string { return tellNumber(piece, 10) },
		read: func(r *reader) string { return readNumber(r.word(), 10, width) },
	}
}

// groupsPart is so many numbers of so many bytes each, in one word with something between them.
func groupsPart(count, width, base int, between string) part {
	return part{
		pass: func(r *reader) { r.take(count * width) },
		tell: func(piece string) string {
			r := &reader{piece}
			var groups []string
			for range count {
				groups = append(groups, tellNumber(r.take(width), base))
			}
			return strings.Join(groups, between)
		},
		read: func(r *reader) string {
			var pieces []string
			for _, group := range strings.SplitN(r.word(), between, count+1) {
				pieces = append(pieces, readNumber(group, base, width))
			}
			return strings.Join(pieces, "")
		},
	}
}

func namePart() part {
	return part{pass: passName, tell: tellName, read: readName, name: true}
}

func passName(r *reader) {
	from := r.rest
	label := r.counted()
	for label != "" {
		label = r.counted()
	}
	must(name.Right(from[:len(from)-len(r.rest)]))
}

func tellName(piece string) string {
	text, e := name.Text(piece)
	must(e == api.OK)
	return text
}

func readName(r *reader) string {
	n, e := name.Parse(r.word())
	must(e == api.OK)
	return n
}

// typePart is a type, told by its text.
func typePart() part {
	return part{
		pass: func(r *reader) { r.take(2) },
		tell: func(piece string) string { return tellType(number(piece)) },
		read: func(r *reader) string { return bytesOf(readType(r.word()), 2) },
	}
}

// hexPart is all the bytes that are left, of which there is one at least.
func hexPart() part {
	return part{
		pass: func(r *reader) { must(r.all() != "") },
		tell: hex,
		read: func(r *reader) string { return unhex(r.word()) },
	}
}

// noSalt tells a salt of no bytes.
const noSalt = "-"

// saltPart is bytes behind their number, of which there may be none.
func saltPart() part {
	return part{
		pass: func(r *reader) { r.counted() },
		tell: func(piece string) string {
			if salt := piece[1:]; salt != "" {
				return hex(salt)
			}
			return noSalt
		},
		read: func(r *reader) string {
			word := r.word()
			if word == noSalt {
				return counted("")
			}
			return counted(unhex(word))
		},
	}
}

// hashPart is bytes behind their number, of which there is one at least.
func hashPart() part {
	return part{
		pass: func(r *reader) { must(r.counted() != "") },
		tell: func(piece string) string { return base32(piece[1:]) },
		read: func(r *reader) string { return counted(unbase32(r.word())) },
	}
}

// anyMark is the first word of bytes of no known form.
const anyMark = `\#`

// anyPart is bytes of no known form.
func anyPart() part {
	return part{
		pass: func(r *reader) { r.all() },
		tell: func(piece string) string {
			text := anyMark + " " + strconv.Itoa(len(piece))
			if piece != "" {
				text += " " + hex(piece)
			}
			return text
		},
		read: func(r *reader) string {
			r.word() // the mark
			r.word() // how many
			return unhex(r.word())
		},
	}
}
