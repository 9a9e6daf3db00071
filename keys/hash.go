package keys

import "guidepost/digest"

// hash is a kind of digest: the number by which a Ds names it, and how it is reckoned.
type hash struct {
	kind int
	sum  func(text string) string
}

// hashOf is the kind of digest of a number.
func hashOf(kind int) (hash, bool) {
	for _, h := range [...]hash{{1, digest.Sum1}, {2, digest.Sum256}} {
		if h.kind == kind {
			return h, true
		}
	}
	return hash{}, false
}
