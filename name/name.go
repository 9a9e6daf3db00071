// Package name is layer 1: domain names in wire form, as shared/doc/01-name.md says.
package name

import (
	"iter"
	"strings"

	"guidepost/api"
)

// root is the name without labels.
const root = "\x00"

// Right tells whether n is a name.
func Right(n string) bool {
	if len(n) > api.MaxName {
		return false
	}
	end := 0
	for at, label := range eachLabel(n) {
		if len(label) > api.MaxLabel {
			return false
		}
		end = at + 1 + len(label)
	}
	return n[end:] == root
}

// Labels are the labels of a name, the leftmost one first.
func Labels(n string) []string {
	if !Right(n) {
		return nil
	}
	return labelsOf(strings.Clone(n))
}

// Of is the name that has these labels.
func Of(labels []string) (string, api.Errno) {
	d := newDraft()
	for _, label := range labels {
		d.add(label)
	}
	return d.name()
}

// Lower is a name with all letters small; what is no name stays as it is.
func Lower(n string) string {
	if !Right(n) {
		return n
	}
	return lowered(n)
}

// eachLabel goes over the labels of n, each with the place of its length byte. It ends at the byte 0, or where the bytes
// that a length byte announces are not all there: whoever does not know n to be a name must look at what is left.
func eachLabel(n string) iter.Seq2[int, string] {
	return func(yield func(int, string) bool) {
		at := 0
		for at < len(n) && n[at] != 0 {
			next := at + 1 + int(n[at])
			if next > len(n) || !yield(at, n[at+1:next]) {
				return
			}
			at = next
		}
	}
}

// labelsOf is Labels of a name, sharing its bytes.
func labelsOf(n string) []string {
	var list []string
	for _, label := range eachLabel(n) {
		list = append(list, label)
	}
	return list
}

// lowered makes the letters of a name small. It looks at length bytes too, since none of them, at most 63, is a letter.
func lowered(n string) string {
	low := make([]byte, len(n))
	copy(low, n)
	for i, b := range low {
		low[i] = lowByte(b)
	}
	return string(low)
}

func lowByte(b byte) byte {
	if b >= 'A' && b <= 'Z' {
		return b + ('a' - 'A')
	}
	return b
}

func rightLabel(label string) bool {
	return len(label) >= 1 && len(label) <= api.MaxLabel
}
