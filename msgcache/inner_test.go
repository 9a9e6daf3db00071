package msgcache

import (
	"testing"

	"guidepost/api"
	"guidepost/rrcache"
)

// DOC.md's P3: of the sets that were handed in nothing is kept, nor of those that sets told; only where they are.
func TestKeepsNoSets(t *testing.T) {
	sets, _ := rrcache.New(2)
	c, _ := New(2, sets)
	s := api.Set{Name: "\x01A\x00", Type: api.TypeA, Class: api.IN, TTL: 10, Data: []string{"abcd"}}
	sets.Put(s, api.RankAnswer, api.Unchecked, 0)
	q := api.Question{Name: "\x01Q\x00", Type: api.TypeA, Class: api.IN}
	if ok, e := c.Put(q, Answer{Answer: []api.Set{s}, Authority: []api.Set{s}}, 0); !ok || e != api.OK {
		t.Fatal(ok, e)
	}
	c.Get(q, 0)
	for k, x := range c.kept.All() {
		at := link{key{"\x01a\x00", api.TypeA}, 1}
		if k != (key{"\x01q\x00", api.TypeA}) || x.Answer.Answer != nil || x.Answer.Authority != nil || len(x.answer) != 1 || x.answer[0] != at || len(x.authority) != 1 || x.authority[0] != at {
			t.Error(k, x)
		}
	}
}
