package msgcache

import (
	"slices"

	"guidepost/api"
	"guidepost/data"
	"guidepost/name"
)

const (
	// typeBits, timeBits are how many bits a type, and a time in seconds, have.
	typeBits, timeBits = 16, 32

	// mostSets is how many sets an answer may have in Answer, and in Authority.
	mostSets = 20

	// noMinimum is how many seconds that there is nothing is known for, where no SOA tells it.
	noMinimum = 5
)

// key is what an answer is found by, and a set of one: the name in small letters.
type key struct {
	name string
	kind int
}

func keyOf(n string, kind int) key {
	return key{name.Lower(n), kind}
}

// link points at the set of an answer, as it was when the answer came to be known.
type link struct {
	key
	version int
}

// known is what is kept of an answer: what is told of it, without its sets, and where these are.
type known struct {
	Answer
	answer, authority []link
}

// over tells whether the answer may not be told any more.
func (x known) over(now int) bool {
	return now >= x.Until
}

func rightQuestion(q api.Question) bool {
	return q.Class == api.IN && fits(q.Type, typeBits) && name.Right(q.Name)
}

func rightAnswer(a Answer) bool {
	return (a.Rcode == api.NoError || a.Rcode == api.NXDomain) &&
		a.Security >= api.Unchecked && a.Security <= api.Bogus &&
		len(a.Answer) <= mostSets && len(a.Authority) <= mostSets
}

func isTime(n int) bool {
	return fits(n, timeBits)
}

// fits tells whether n is a number of at most so many bits.
func fits(n, bits int) bool {
	return n >= 0 && n>>bits == 0
}

// learn is what is to be kept of an answer to a question of this type, if all of its sets are there.
func (c *Cache) learn(kind int, a Answer, now int) (known, bool) {
	x := known{Answer: Answer{Rcode: a.Rcode, Security: a.Security}}
	ttl, all := api.MaxTTL, false
	if x.answer, ttl, all = c.find(a.Answer, ttl, now); !all {
		return known{}, false
	}
	if x.authority, ttl, all = c.find(a.Authority, ttl, now); !all {
		return known{}, false
	}
	if denies(a, kind) {
		ttl = min(ttl, minimum(a.Authority))
	}
	x.Until = now + ttl
	if a.Until != 0 {
		x.Until = min(x.Until, a.Until)
	}
	return x, true
}

// find asks for sets, one by one: links to them, and the least of their TTLs and this one. What counts is what they are there, not what the list says of them.
func (c *Cache) find(list []api.Set, ttl, now int) ([]link, int, bool) {
	var links []link
	for _, s := range list {
		e, found := c.sets.Get(s.Name, s.Type, now)
		if !found {
			return nil, 0, false
		}
		links = append(links, link{keyOf(s.Name, s.Type), e.Version})
		ttl = min(ttl, e.Set.TTL)
	}
	return links, ttl, true
}

// denies tells whether an answer to a question of this type ends without a set of it.
func denies(a Answer, kind int) bool {
	count := len(a.Answer)
	return count == 0 || kind != api.TypeANY && a.Answer[count-1].Type != kind
}

// minimum is how long an answer's SOA lets it be known that there is nothing. The answer's own data count: what is known of their name by now may be of another serial.
func minimum(authority []api.Set) int {
	i := slices.IndexFunc(authority, func(s api.Set) bool { return s.Type == api.TypeSOA })
	if i < 0 || len(authority[i].Data) == 0 {
		return noMinimum
	}
	soa, e := data.Soa(authority[i].Data[0])
	if e != api.OK {
		return noMinimum
	}
	return soa.Minimum
}

// tell is what is told of an answer, if it is not over and its sets are what they were.
func (c *Cache) tell(x known, now int) (Answer, bool) {
	if x.over(now) {
		return Answer{}, false
	}
	told, all := x.Answer, false
	if told.Answer, all = c.follow(x.answer, x.Until, now); !all {
		return Answer{}, false
	}
	if told.Authority, all = c.follow(x.authority, x.Until, now); !all {
		return Answer{}, false
	}
	return told, true
}

// follow asks for the sets that links point at, one by one, with no TTL that leads beyond a time.
func (c *Cache) follow(links []link, until, now int) ([]api.Set, bool) {
	var list []api.Set
	for _, l := range links {
		e, found := c.sets.Get(l.name, l.kind, now)
		if !found || e.Version != l.version {
			return nil, false
		}
		e.Set.TTL = min(e.Set.TTL, until-now)
		list = append(list, e.Set)
	}
	return list, true
}
