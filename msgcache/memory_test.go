package msgcache_test

import (
	"reflect"
	"slices"
	"testing"

	"guidepost/api"
	"guidepost/msgcache"
)

// roomy is a list with room behind it, which is filled.
func roomy[T any](list []T, behind T) []T {
	return append(slices.Clone(list), behind, behind)[:len(list)]
}

// roomyAnswer is one answer, made anew each time.
func roomyAnswer() msgcache.Answer {
	a := lineOf("put q. sec=2 answer=b./A/20/3,a./A/10/1+2/x+y authority=s./SOA/30/40+9").answer()
	for _, list := range [][]api.Set{a.Answer, a.Authority} {
		for i := range list {
			list[i].Data, list[i].Sigs = roomy(list[i].Data, "behind"), roomy(list[i].Sigs, "behind")
		}
	}
	a.Answer, a.Authority = roomy(a.Answer, setOf("z.")), roomy(a.Authority, setOf("z."))
	return a
}

// spoilList writes into all of a list, its spare room too.
func spoilList[T any](list []T, x T) {
	list = list[:cap(list)]
	for i := range list {
		list[i] = x
	}
}

// spoilSets writes into all that stands behind sets, and into their list.
func spoilSets(list []api.Set) {
	for _, s := range list {
		spoilList(s.Data, "spoilt")
		spoilList(s.Sigs, "spoilt")
	}
	spoilList(list, api.Set{Name: "spoilt"})
}

const roomySets = "set a./A/10/1+2/x+y; set b./A/20/3; set s./SOA/30/40+9"

// DOC.md's P3: what is handed in is not written into, nor what stands behind it.
func TestHandedIn(t *testing.T) {
	b := made(t, 2, 5)
	q := lineOf("put q.").ask()
	for _, sets := range []string{"sets: 0", "set b./A/9/4; set a./A/9/5", roomySets} {
		b.doAll(t, sets)
		for _, now := range []int{0, 1, 15, 100, -1} {
			a, same := roomyAnswer(), roomyAnswer()
			b.answers.Put(q, a, now)
			b.answers.Get(q, now)
			if !reflect.DeepEqual(a, same) || !reflect.DeepEqual(a.Answer[:4], same.Answer[:4]) || !reflect.DeepEqual(a.Authority[:3], same.Authority[:3]) || !slices.Equal(a.Answer[1].Sigs[:4], same.Answer[1].Sigs[:4]) {
				t.Error("written into", a)
			}
		}
	}
}

// DOC.md's P3: what is done to an answer behind Put changes nothing of what is kept.
func TestHandedInChanges(t *testing.T) {
	b := made(t, 2, 5)
	b.doAll(t, roomySets)
	a := roomyAnswer()
	if got := putText(b.answers.Put(lineOf("put q.").ask(), a, 0)); got != "true" {
		t.Error(got)
	}
	spoilSets(a.Answer)
	spoilSets(a.Authority)
	b.doAll(t, "get q. at=1: rcode=0 sec=2 until=10 answer=b./A/9/3,a./A/9/1+2/x+y authority=s./SOA/9/40+9")
}

// DOC.md's P3: what is done to what Get told changes nothing of what is kept, of the sets, nor of what is told otherwise.
func TestToldIsNew(t *testing.T) {
	b := made(t, 2, 5)
	b.doAll(t, roomySets+"; put q. sec=2 answer=b.,a.,a. authority=s./SOA,a.: true; put r. answer=a.: true")
	get := func(n string) msgcache.Answer {
		a, _ := b.answers.Get(lineOf("get "+n).ask(), 1)
		return a
	}
	first, second, third := get("q."), get("q."), get("r.")
	told := answerText(second, true)
	spoilSets(first.Answer)
	if got := setTexts(first.Authority); got != "s./SOA/9/40+9,a./A/9/1+2/x+y" {
		t.Error("Answer and Authority share", got)
	}
	spoilSets(first.Authority)
	if got := answerText(second, true); got != told {
		t.Error("two answers share", got)
	}
	if got := answerText(third, true); got != "rcode=0 sec=0 until=10 answer=a./A/9/1+2/x+y authority=" {
		t.Error("answers to two questions share", got)
	}
	spoilList(second.Answer[1].Data, "spoilt")
	if got := setTexts(second.Answer[2:]); got != "a./A/9/1+2/x+y" {
		t.Error("two sets share", got)
	}
	if got := answerText(get("q."), true); got != told {
		t.Error("what is kept has changed", got)
	}
	b.doAll(t, "look a./A at=1: a./A/9/1+2/x+y v=1; look b./A at=1: b./A/19/3 v=2; look s./SOA at=1: s./SOA/29/40+9 v=3; get r. at=1: answer=a./A/9/1+2/x+y")
}

// DOC.md's P3: an answer that was told stays as it is, whatever is done to the caches.
func TestToldStays(t *testing.T) {
	b := made(t, 1, 2)
	b.doAll(t, "set a./A/10/1+2/x; set s./NS/20/n.; put q. answer=a. authority=s./NS")
	a, found := b.answers.Get(lineOf("get q.").ask(), 3)
	b.doAll(t, "set A./A/10/2/y; set S./NS/30/N.; get q.: -; put q. answer=; put r. answer=; set b.; sweep at=100; get r. at=100: -; len: 0")
	if got := answerText(a, found); got != "rcode=0 sec=0 until=10 answer=a./A/7/1+2/x authority=s./NS/7/n." {
		t.Error(got)
	}
}

// DOC.md's P5: an answer without sets tells none.
func TestToldEmpty(t *testing.T) {
	b := made(t, 2, 2)
	for _, a := range []msgcache.Answer{{}, {Answer: []api.Set{}, Authority: []api.Set{}}, {Answer: setsOf("a.,b.")[:0]}} {
		q := lineOf("put q.").ask()
		b.answers.Put(q, a, 0)
		if got := answerText(b.answers.Get(q, 0)); got != "rcode=0 sec=0 until=5 answer= authority=" {
			t.Error(got)
		}
	}
}

// DOC.md's P4: two caches of the same sets hang on nothing else of each other.
func TestApart(t *testing.T) {
	a := made(t, 1, 2)
	b := both{a.sets, must(msgcache.New(2, a.sets))}
	c := made(t, 2, 2)
	a.doAll(t, "set x.; put q. answer=x. sec=1; len: 1")
	b.doAll(t, "len: 0; get q.: -; put q. answer=x. sec=2: true; put r. answer=x.; len: 2; get q.: sec=2")
	c.doAll(t, "put q. answer=x.: false; len: 0")
	a.doAll(t, "get q.: sec=1; put q. answer=z.: false; len: 0; put r. answer=: true")
	b.doAll(t, "get q.: sec=2; get r.: until=10; set x./A/10/2; get q.: -; len: 1")
	a.doAll(t, "len: 1; get r.: until=5")
}
