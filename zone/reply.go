package zone

import (
	"guidepost/api"
	"guidepost/rrset"
	"guidepost/wire"
)

// ednsSize is how long a message a server of a zone says that it takes.
const ednsSize = 4096

// asks is whether a message is one that a server of a zone answers.
func asks(m api.Message) bool {
	if m.Reply || m.Op != 0 || len(m.Ask) != 1 || m.Ask[0].Class != api.IN {
		return false
	}
	_, _, e := wire.Write(m, api.MaxMessage)
	return e == api.OK
}

// replyOf is the reply to a message by what the zone answers.
func replyOf(m api.Message, a Answer) api.Message {
	r := api.Message{ID: m.ID, Reply: true, Op: m.Op, RD: m.RD, Ask: m.Ask, Rcode: rcodeOf(a.Kind)}
	r.AA = a.Kind != api.KReferral && a.Kind != api.KOutside
	r.Answer, r.Authority, r.Extra = records(a.Answer), records(a.Authority), records(a.Extra)
	if m.Edns.Has {
		r.Edns = api.Edns{Has: true, Size: ednsSize, Do: m.Edns.Do}
	}
	return r
}

func rcodeOf(kind int) int {
	switch kind {
	case api.KNXDomain:
		return api.NXDomain
	case api.KOutside:
		return api.Refused
	}
	return api.NoError
}

func records(sets []api.Set) []api.Record {
	var list []api.Record
	for _, s := range sets {
		list = append(list, rrset.Records(s)...)
	}
	return list
}
