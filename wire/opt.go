package wire

import "guidepost/api"

// How the TTL of an OPT record is divided: the upper bits of the Rcode, the version, and a flag.
const (
	codeShift    = 24
	versionShift = 16
	versionBits  = 8
	doFlag       = 1 << 15
)

// liftOpt takes the OPT record out of the extras, and tells of it in Edns; it says false, if there is one that may not be.
func liftOpt(m *api.Message) bool {
	if hasOpt(m.Answer) || hasOpt(m.Authority) {
		return false
	}
	var others []api.Record
	for _, x := range m.Extra {
		if x.Type != api.TypeOPT {
			others = append(others, x)
			continue
		}
		if m.Edns.Has || x.Name != root || !areOptions(x.Data) {
			return false
		}
		m.Edns = ednsOf(x)
		m.Rcode |= x.TTL >> codeShift << lowCode
	}
	m.Extra = others
	return true
}

func hasOpt(records []api.Record) bool {
	for _, x := range records {
		if x.Type == api.TypeOPT {
			return true
		}
	}
	return false
}

func ednsOf(x api.Record) api.Edns {
	return api.Edns{
		Has:     true,
		Size:    x.Class,
		Do:      x.TTL&doFlag != 0,
		Version: lowest(x.TTL>>versionShift, versionBits),
		Options: x.Data,
	}
}

// optOf is the record that tells Edns, and the bits of the Rcode that the flags have no room for.
func optOf(m api.Message) api.Record {
	return api.Record{
		Name:  root,
		Type:  api.TypeOPT,
		Class: m.Edns.Size,
		TTL:   m.Rcode>>lowCode<<codeShift | m.Edns.Version<<versionShift | flagIf(m.Edns.Do, doFlag),
		Data:  m.Edns.Options,
	}
}

// areOptions tells whether bytes are options: code, length and so many bytes, again and again.
func areOptions(s string) bool {
	r := newReader(s)
	for !r.bad && r.at < r.end {
		r.number(2)
		r.take(r.number(2))
	}
	return !r.bad
}
