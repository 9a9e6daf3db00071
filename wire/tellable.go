package wire

import (
	"guidepost/api"
	"guidepost/data"
	"guidepost/name"
)

// maxAsks is how many questions a message may have.
const maxAsks = 1

// tellable tells whether a message can be told as bytes.
func tellable(m api.Message) bool {
	return tellableHead(m) && tellableEdns(m.Edns) && tellableCounts(m) && tellableQuestions(m.Ask) &&
		tellableRecords(m.Answer) && tellableRecords(m.Authority) && tellableRecords(m.Extra)
}

func tellableHead(m api.Message) bool {
	code := lowCode
	if m.Edns.Has {
		code = wholeCode
	}
	return fits(m.ID, 16) && fits(m.Op, opBits) && fits(m.Rcode, code)
}

func tellableEdns(x api.Edns) bool {
	if !x.Has {
		return x == api.Edns{}
	}
	return fits(x.Size, 16) && fits(x.Version, versionBits) && len(x.Options) <= api.MaxData && areOptions(x.Options)
}

// tellableCounts looks at how many items there are, ahead of the items: OPT takes the place of an extra.
func tellableCounts(m api.Message) bool {
	extras := len(m.Extra)
	if m.Edns.Has {
		extras++
	}
	return len(m.Ask) <= maxAsks && max(len(m.Answer), len(m.Authority), extras) <= api.MaxRecords
}

func tellableQuestions(list []api.Question) bool {
	for _, q := range list {
		if !name.Right(q.Name) || !fits(q.Type, 16) || !fits(q.Class, 16) {
			return false
		}
	}
	return true
}

func tellableRecords(list []api.Record) bool {
	for _, x := range list {
		if !tellableRecord(x) {
			return false
		}
	}
	return true
}

// tellableRecord leaves the number of the type to data.Right, which knows it. OPT is none of the records: Edns tells it.
func tellableRecord(x api.Record) bool {
	return x.Type != api.TypeOPT && name.Right(x.Name) && fits(x.Class, 16) && fits(x.TTL, 32) && data.Right(x.Type, x.Data)
}
