package data

import (
	"slices"
	"strings"

	"guidepost/api"
)

// Soa is what data of SOA have.
func Soa(d string) (api.Soa, api.Errno) {
	p, ok := split(api.TypeSOA, d)
	if !ok {
		return api.Soa{}, api.ErrData
	}
	return api.Soa{
		Primary: p[0], Mail: p[1],
		Serial: number(p[2]), Refresh: number(p[3]), Retry: number(p[4]), Expire: number(p[5]), Minimum: number(p[6]),
	}, api.OK
}

// Sig is what data of RRSIG have.
func Sig(d string) (api.Sig, api.Errno) {
	p, ok := split(api.TypeRRSIG, d)
	if !ok {
		return api.Sig{}, api.ErrData
	}
	return api.Sig{
		Covered: number(p[0]), Alg: number(p[1]), Labels: number(p[2]),
		TTL: number(p[3]), End: number(p[4]), Begin: number(p[5]), Tag: number(p[6]),
		Signer: p[7], Sign: p[8],
	}, api.OK
}

// Key is what data of DNSKEY have.
func Key(d string) (api.Key, api.Errno) {
	p, ok := split(api.TypeDNSKEY, d)
	if !ok {
		return api.Key{}, api.ErrData
	}
	return api.Key{Flags: number(p[0]), Protocol: number(p[1]), Alg: number(p[2]), Public: p[3]}, api.OK
}

// Ds is what data of DS have.
func Ds(d string) (api.Ds, api.Errno) {
	p, ok := split(api.TypeDS, d)
	if !ok {
		return api.Ds{}, api.ErrData
	}
	return api.Ds{Tag: number(p[0]), Alg: number(p[1]), Kind: number(p[2]), Digest: p[3]}, api.OK
}

// Nsec is what data of NSEC have.
func Nsec(d string) (api.Nsec, api.Errno) {
	p, ok := split(api.TypeNSEC, d)
	if !ok {
		return api.Nsec{}, api.ErrData
	}
	return api.Nsec{Next: p[0], Types: typesOf(p[1])}, api.OK
}

// Nsec3 is what data of NSEC3 have.
func Nsec3(d string) (api.Nsec3, api.Errno) {
	p, ok := split(api.TypeNSEC3, d)
	if !ok {
		return api.Nsec3{}, api.ErrData
	}
	return api.Nsec3{
		Alg: number(p[0]), Flags: number(p[1]), Rounds: number(p[2]),
		Salt: p[3][1:], Next: p[4][1:], Types: typesOf(p[5]),
	}, api.OK
}

// OfSoa is the data of SOA that have this.
func OfSoa(x api.Soa) (string, api.Errno) {
	return joined(api.TypeSOA, func() []string {
		return []string{
			x.Primary, x.Mail,
			bytesOf(x.Serial, 4), bytesOf(x.Refresh, 4), bytesOf(x.Retry, 4), bytesOf(x.Expire, 4), bytesOf(x.Minimum, 4),
		}
	})
}

// OfSig is the data of RRSIG that have this.
func OfSig(x api.Sig) (string, api.Errno) {
	return joined(api.TypeRRSIG, func() []string {
		return []string{
			bytesOf(x.Covered, 2), bytesOf(x.Alg, 1), bytesOf(x.Labels, 1),
			bytesOf(x.TTL, 4), bytesOf(x.End, 4), bytesOf(x.Begin, 4), bytesOf(x.Tag, 2),
			x.Signer, x.Sign,
		}
	})
}

// OfKey is the data of DNSKEY that have this.
func OfKey(x api.Key) (string, api.Errno) {
	return joined(api.TypeDNSKEY, func() []string {
		return []string{bytesOf(x.Flags, 2), bytesOf(x.Protocol, 1), bytesOf(x.Alg, 1), x.Public}
	})
}

// OfDs is the data of DS that have this.
func OfDs(x api.Ds) (string, api.Errno) {
	return joined(api.TypeDS, func() []string {
		return []string{bytesOf(x.Tag, 2), bytesOf(x.Alg, 1), bytesOf(x.Kind, 1), x.Digest}
	})
}

// OfNsec is the data of NSEC that have this.
func OfNsec(x api.Nsec) (string, api.Errno) {
	return joined(api.TypeNSEC, func() []string {
		return []string{x.Next, bytesOfTypes(x.Types)}
	})
}

// OfNsec3 is the data of NSEC3 that have this.
func OfNsec3(x api.Nsec3) (string, api.Errno) {
	return joined(api.TypeNSEC3, func() []string {
		return []string{
			bytesOf(x.Alg, 1), bytesOf(x.Flags, 1), bytesOf(x.Rounds, 2),
			counted(x.Salt), counted(x.Next), bytesOfTypes(x.Types),
		}
	})
}

// joined is the data of the pieces that are put down. Data of right form are not enough: they must fall into the same
// pieces again, or a name that is none could run into what stands behind it.
func joined(kind int, put func() []string) (string, api.Errno) {
	var pieces []string
	if !sound(func() { pieces = put() }) {
		return "", api.ErrData
	}
	d := strings.Join(pieces, "")
	if again, ok := split(kind, d); !ok || !slices.Equal(again, pieces) {
		return "", api.ErrData
	}
	return d, api.OK
}
