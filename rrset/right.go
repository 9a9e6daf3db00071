package rrset

import (
	"slices"

	"guidepost/api"
	"guidepost/data"
	"guidepost/name"
)

// ttlBits is how many bits a set's TTL has; a record's has one more.
const ttlBits = 31

// rightHead leaves the number of the type to data.Right, which knows it, and is asked of the Data.
func rightHead(s api.Set) bool {
	return name.Right(s.Name) && makesSets(s.Type) && fits(s.Class, 16) && fits(s.TTL, ttlBits)
}

func rightData(s api.Set) bool {
	if len(s.Data) < 1 || len(s.Data) > api.MaxRecords {
		return false
	}
	for _, d := range s.Data {
		if !data.Right(s.Type, d) {
			return false
		}
	}
	return len(slices.Compact(inOrder(s))) == len(s.Data)
}

func rightSigs(s api.Set) bool {
	if len(s.Sigs) > api.MaxRecords {
		return false
	}
	for _, sign := range s.Sigs {
		if g, e := data.Sig(sign); e != api.OK || g.Covered != s.Type {
			return false
		}
	}
	return true
}

// rightRecord leaves the number of the type to data.Right, too.
func rightRecord(x api.Record) bool {
	return name.Right(x.Name) && fits(x.Class, 16) && fits(x.TTL, ttlBits+1) && data.Right(x.Type, x.Data)
}

// makesSets is whether records of a type make sets of their own: signatures belong to what they sign, and OPT is about the message.
func makesSets(kind int) bool {
	return kind != api.TypeRRSIG && kind != api.TypeOPT
}

// inOrder is a set's data in the one form and order in which sets are compared, and signed.
func inOrder(s api.Set) []string {
	var list []string
	for _, d := range s.Data {
		list = append(list, data.Lower(s.Type, d))
	}
	slices.Sort(list)
	return list
}

func fits(n, bits int) bool {
	return n >= 0 && n>>bits == 0
}
