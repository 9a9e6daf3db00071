package digest

import "guidepost/api"

// letters tell the groups of bits: the first 16 those of hex, all of them those of base 32.
const letters = "0123456789abcdefghijklmnopqrstuv"

// noLetter is what a byte counts that is none of the letters: more than any group.
const noLetter = 255

// spelt is bytes as letters of so many bits each; the last one is made up with bits 0.
func spelt(s string, width int) string {
	text, rest, over := regrouped([]byte(s), 8, width)
	if over > 0 {
		text = append(text, byte(rest<<(width-over)))
	}
	for i, group := range text {
		text[i] = letters[group]
	}
	return string(text)
}

// unspelt is the bytes that letters of so many bits tell. A letter too many, or one that is made up with other bits than 0, is
// refused: so each text is, but for great letters, what its bytes are told as.
func unspelt(text string, width int) (string, api.Errno) {
	groups := make([]byte, len(text))
	for i := range groups {
		groups[i] = counts(text[i])
		if groups[i] >= 1<<width {
			return "", api.ErrText
		}
	}
	s, rest, over := regrouped(groups, width, 8)
	if over >= width || rest != 0 {
		return "", api.ErrText
	}
	return string(s), api.OK
}

// counts is the group of bits that a letter tells.
func counts(letter byte) byte {
	switch {
	case letter >= '0' && letter <= '9':
		return letter - '0'
	case letter >= 'a' && letter <= 'v':
		return letter - 'a' + 10
	case letter >= 'A' && letter <= 'V':
		return letter - 'A' + 10
	}
	return noLetter
}

// regrouped is the bits of groups of one width in groups of another, as far as they go, and the rest: its bits, and how many they
// are.
func regrouped(groups []byte, from, to int) (made []byte, rest uint16, over int) {
	for _, group := range groups {
		rest = rest<<from | uint16(group)
		over += from
		for over >= to {
			over -= to
			made = append(made, byte(rest>>over))
			rest &= 1<<over - 1
		}
	}
	return made, rest, over
}
