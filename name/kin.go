package name

import (
	"cmp"
	"strings"

	"guidepost/api"
)

// Equal tells whether both are names, and the same.
func Equal(a, b string) bool {
	return Right(a) && Right(b) && lowered(a) == lowered(b)
}

// Under tells whether both are names, and a ends with all labels of b.
func Under(a, b string) bool {
	return Right(a) && Right(b) && under(a, b)
}

// Compare orders names by their labels from the right.
func Compare(a, b string) int {
	if !Right(a) || !Right(b) {
		return compareStrays(a, b)
	}
	la, lb := labelsOf(lowered(a)), labelsOf(lowered(b))
	same := sharedEnd(la, lb)
	if same == len(la) || same == len(lb) {
		return cmp.Compare(len(la), len(lb))
	}
	return cmp.Compare(la[len(la)-1-same], lb[len(lb)-1-same])
}

// Parent is a name without its first label.
func Parent(n string) (string, api.Errno) {
	if !Right(n) {
		return "", api.ErrName
	}
	if n == root {
		return "", api.ErrArg
	}
	return withoutFirst(n, 1), api.OK
}

// Common is the longest name under which both are, with the letters of a.
func Common(a, b string) (string, api.Errno) {
	if !Right(a) || !Right(b) {
		return "", api.ErrName
	}
	la, lb := labelsOf(lowered(a)), labelsOf(lowered(b))
	return withoutFirst(a, len(la)-sharedEnd(la, lb)), api.OK
}

// Child is n with a label ahead.
func Child(label, n string) (string, api.Errno) {
	if !Right(n) || !rightLabel(label) {
		return "", api.ErrName
	}
	return limited(string([]byte{byte(len(label))}) + label + n)
}

// Moved is n, which is below from, with to in the place of from.
func Moved(n, from, to string) (string, api.Errno) {
	if !Right(n) || !Right(from) || !Right(to) {
		return "", api.ErrName
	}
	if len(n) == len(from) || !under(n, from) {
		return "", api.ErrArg
	}
	return limited(n[:len(n)-len(from)] + to)
}

// Cased is n with its letters great or small, as bits says of each.
func Cased(n string, bits uint64) (string, api.Errno) {
	if !Right(n) {
		return "", api.ErrName
	}
	cased := []byte(lowered(n))
	letters := 0
	for i, b := range cased {
		if b < 'a' || b > 'z' {
			continue
		}
		if bits>>(letters%64)&1 == 1 {
			cased[i] = b - ('a' - 'A')
		}
		letters++
	}
	return string(cased), api.OK
}

// under is Under of names.
func under(a, b string) bool {
	lb := labelsOf(lowered(b))
	return sharedEnd(labelsOf(lowered(a)), lb) == len(lb)
}

// sharedEnd is how many of the last labels are the same.
func sharedEnd(a, b []string) int {
	same := 0
	for same < len(a) && same < len(b) && a[len(a)-1-same] == b[len(b)-1-same] {
		same++
	}
	return same
}

// withoutFirst is a name without so many of its first labels.
func withoutFirst(n string, count int) string {
	for at := range eachLabel(n) {
		if count == 0 {
			return strings.Clone(n[at:])
		}
		count--
	}
	return root
}

// compareStrays is Compare where at least one is no name.
func compareStrays(a, b string) int {
	switch {
	case Right(a):
		return 1
	case Right(b):
		return -1
	}
	return cmp.Compare(a, b)
}
