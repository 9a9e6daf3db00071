package name

import (
	"iter"
	"strings"

	"guidepost/api"
)

// Bytes outside of these are told by their numbers.
const (
	firstPlain = 33
	lastPlain  = 126
)

// Parse is the name that a text tells.
func Parse(text string) (string, api.Errno) {
	if text == "." {
		return root, api.OK
	}
	if text == "" {
		return "", api.ErrText
	}
	d := newDraft()
	for label, ok := range eachTold(text) {
		if !ok {
			return "", api.ErrText
		}
		d.add(label)
	}
	return d.name()
}

// Text is the one text by which a name is told.
func Text(n string) (string, api.Errno) {
	if !Right(n) {
		return "", api.ErrName
	}
	if n == root {
		return ".", api.OK
	}
	var text []byte
	for _, label := range eachLabel(n) {
		for i := range len(label) {
			text = appendTold(text, label[i])
		}
		text = append(text, '.')
	}
	return string(text), api.OK
}

// eachTold goes over the labels that a text tells. Where the text is not of the right form it says false, and ends.
func eachTold(text string) iter.Seq2[string, bool] {
	return func(yield func(string, bool) bool) {
		rest := text
		for rest != "" {
			label, behind, ok := cutLabel(rest)
			if !yield(label, ok) || !ok {
				return
			}
			rest = behind
		}
	}
}

// cutLabel is the first label that a text tells, and the text behind its dot. Of a label that is too long it keeps one byte
// more than a label may have, which is enough to know it by.
func cutLabel(text string) (label, behind string, ok bool) {
	var told []byte
	at := 0
	for at < len(text) && text[at] != '.' {
		b, size := toldByte(text[at:])
		if size == 0 {
			return "", "", false
		}
		if len(told) <= api.MaxLabel {
			told = append(told, b)
		}
		at += size
	}
	if at == 0 {
		return "", "", false
	}
	return string(told), strings.TrimPrefix(text[at:], "."), true
}

// toldByte is the byte that the beginning of a text (not empty) tells, and how much of the text that takes: nothing, if it
// tells none.
func toldByte(text string) (b byte, size int) {
	if text[0] != '\\' {
		if !plain(text[0]) {
			return 0, 0
		}
		return text[0], 1
	}
	if len(text) < 2 {
		return 0, 0
	}
	if !digit(text[1]) {
		return text[1], 2
	}
	return numberedByte(text)
}

// numberedByte is toldByte of a backslash and a digit.
func numberedByte(text string) (b byte, size int) {
	if len(text) < 4 || !digit(text[2]) || !digit(text[3]) {
		return 0, 0
	}
	number := int(text[1]-'0')*100 + int(text[2]-'0')*10 + int(text[3]-'0')
	if number > 255 {
		return 0, 0
	}
	return byte(number), 4
}

func appendTold(text []byte, b byte) []byte {
	switch {
	case b == '.' || b == '\\':
		return append(text, '\\', b)
	case plain(b):
		return append(text, b)
	}
	return append(text, '\\', '0'+b/100, '0'+b/10%10, '0'+b%10)
}

func plain(b byte) bool {
	return b >= firstPlain && b <= lastPlain
}

func digit(b byte) bool {
	return b >= '0' && b <= '9'
}
