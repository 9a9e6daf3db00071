package rrset

import (
	"guidepost/api"
	"guidepost/data"
	"guidepost/name"
)

// wildcard is the label that stands for all names that are not there.
const wildcard = "*"

// covers is whether a signature may be one of a right set: it speaks of its type, and of no more labels than the name has.
func covers(g api.Sig, s api.Set) bool {
	return g.Covered == s.Type && g.Labels <= labelsIn(s.Name)
}

// signedText is what is signed of a right set by a signature that covers it, and of the signature itself, whose data are sign.
func signedText(s api.Set, g api.Sig, sign string) string {
	low := data.Lower(api.TypeRRSIG, sign)
	return low[:len(low)-len(g.Sign)] + signedBody(s, g)
}

// signedBody is what is signed of a set: its records, with the TTL that they had when they were signed.
func signedBody(s api.Set, g api.Sig) string {
	head := []byte(signedName(s.Name, g.Labels))
	head = appendNumber(head, s.Type, 2)
	head = appendNumber(head, s.Class, 2)
	head = appendNumber(head, g.TTL, 4)
	var body []byte
	for _, d := range inOrder(s) {
		body = append(body, head...)
		body = appendNumber(body, len(d), 2)
		body = append(body, d...)
	}
	return string(body)
}

// signedName is the name that a set had when it was signed: the wildcard's, if the signature counts fewer labels than there are. That is no longer than the name, of which at least one label is gone.
func signedName(n string, count int) string {
	low := name.Lower(n)
	if count >= labelsIn(low) {
		return low
	}
	wild, _ := name.Child(wildcard, ending(low, count))
	return wild
}

// labelsIn is how many labels of a name a signature counts: a first one that is the wildcard is none of them.
func labelsIn(n string) int {
	labels := name.Labels(n)
	if len(labels) > 0 && labels[0] == wildcard {
		return len(labels) - 1
	}
	return len(labels)
}

// ending is the name of the last labels of a name, which has so many.
func ending(n string, count int) string {
	labels := name.Labels(n)
	end, _ := name.Of(labels[len(labels)-count:])
	return end
}

// appendNumber puts a number behind bytes, as so many of them, the greatest first.
func appendNumber(b []byte, n, width int) []byte {
	for i := width - 1; i >= 0; i-- {
		b = append(b, byte(n>>(8*i)))
	}
	return b
}
