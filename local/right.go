package local

import (
	"guidepost/api"
	"guidepost/name"
	"guidepost/rrset"
)

// right tells whether a local zone, looked at alone, may be.
func right(z api.Local) bool {
	if !name.Right(z.Name) || z.Kind < api.LDeny || z.Kind > api.LRedirect || len(z.Records) > api.MaxRecords {
		return false
	}
	for _, r := range z.Records {
		if !rightRecord(r) || !rightPlace(r.Name, z) {
			return false
		}
	}
	return true
}

// rightRecord leaves to rrset.Sets what else makes a record right: of one that is not there is no set.
func rightRecord(r api.Record) bool {
	switch r.Type {
	case api.TypeCNAME, api.TypeDNAME, api.TypeRRSIG, api.TypeOPT:
		return false
	}
	return r.Class == api.IN && len(rrset.Sets([]api.Record{r})) == 1
}

// rightPlace tells whether a zone may have records of a name.
func rightPlace(n string, z api.Local) bool {
	switch z.Kind {
	case api.LStatic, api.LTransparent:
		return name.Under(n, z.Name)
	case api.LRedirect:
		return name.Equal(n, z.Name)
	}
	return false
}
