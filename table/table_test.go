package table_test

import (
	"math"
	"slices"
	"strconv"
	"testing"

	"guidepost/api"
	"guidepost/table"
)

// P11.1: how many keys a table may be made for.
func TestNew(t *testing.T) {
	for _, most := range []int{0, -1, -100000, 100001, 100002, math.MinInt, math.MaxInt, 1 << 32, 1<<32 + 1} {
		if x, e := table.New[string, int](most); x != nil || e != api.ErrArg {
			t.Errorf("New(%d): %v, %v", most, x, e)
		}
	}
	for _, most := range []int{1, 2, 3, 99999, 100000} {
		x := made[string, int](t, most)
		doAll(t, x, "len: 0; keys: ; all: ; get a: -; look a: -; drop a: false; len: 0")
	}
}

// P11.1, P11.2: what is done, and what is answered.
func TestScripts(t *testing.T) {
	for _, c := range []struct {
		what   string
		most   int
		script string
	}{
		{"the chapter's examples", 2, "put a 1: -; put b 2: -; get a: 1; put c 3: b; keys: c a; look a: 1; drop a: true; drop a: false; len: 1"},
		{"of too many the one that was put first", 3, "put a 1: -; put b 2: -; put c 3: -; len: 3; put d 4: a; len: 3; keys: d c b; all: d=4 c=3 b=2; put e 5: b; put f 6: c; put g 7: d; keys: g f e"},
		{"one key", 1, "put a 1: -; put a 2: -; get a: 2; put b 3: a; get a: -; look b: 3; keys: b; put a 4: b; len: 1; drop a: true; len: 0; put c 5: -; all: c=5"},
		{"two keys", 2, "put a 1: -; put b 2: -; put b 3: -; put a 4: -; put c 5: b; put b 6: a; all: b=6 c=5; get c: 5; put d 7: b; keys: d c"},
		{"a key put twice, not full", 3, "put a 1: -; put b 2: -; put a 3: -; len: 2; all: a=3 b=2; put a 4: -; all: a=4 b=2"},
		{"a key put twice, full", 3, "put a 1; put b 2; put c 3; put a 9: -; len: 3; keys: a c b; put c 8: -; put c 7: -; all: c=7 a=9 b=2; put d 4: b; all: d=4 c=7 a=9"},
		{"Put uses", 2, "put a 1; put b 2; put a 1: -; put c 3: b; keys: c a"},
		{"Get uses", 3, "put a 1; put b 2; put c 3; get a: 1; keys: a c b; get c: 3; keys: c a b; get c: 3; keys: c a b; put d 4: b; put e 5: a; keys: e d c"},
		{"Look does not use", 3, "put a 1; put b 2; put c 3; look a: 1; look b: 2; look c: 3; look a: 1; keys: c b a; put d 4: a; look b: 2; put e 5: b; keys: e d c"},
		{"Keys, All and Len do not use", 2, "put a 1; put b 2; keys: b a; all: b=2 a=1; len: 2; keys: b a; put c 3: a"},
		{"a key that is not there", 2, "put a 1; put b 2; get c: -; look c: -; drop c: false; get : -; look : -; drop : false; keys: b a; len: 2; put c 3: a; get a: -; look a: -; drop a: false; all: c=3 b=2"},
		{"a value that is nothing", 2, "put a 0: -; get a: 0; look a: 0; all: a=0; put b 1: -; put c 2: a; get a: -; look a: -"},
		{"dropped, dropped again, put again", 3, "put a 1; put b 2; put c 3; drop b: true; drop b: false; get b: -; look b: -; len: 2; all: c=3 a=1; put b 4: -; len: 3; all: b=4 c=3 a=1; drop b: true; keys: c a; put b 5: -; put d 6: a"},
		{"the only key dropped", 2, "put a 1; drop a: true; len: 0; keys: ; all: ; get a: -; drop a: false; put b 2: -; put a 3: -; keys: a b; put c 4: b"},
		{"the key used last dropped", 3, "put a 1; put b 2; put c 3; drop c: true; keys: b a; len: 2; put d 4: -; keys: d b a; put e 5: a; keys: e d b"},
		{"the key used longest ago dropped", 3, "put a 1; put b 2; put c 3; drop a: true; keys: c b; len: 2; put d 4: -; keys: d c b; put e 5: b; keys: e d c"},
		{"the key between dropped", 3, "put a 1; put b 2; put c 3; drop b: true; keys: c a; get a: 1; keys: a c; put d 4: -; put e 5: c"},
		{"all dropped, one by one", 3, "put a 1; put b 2; put c 3; drop a: true; drop c: true; drop b: true; len: 0; keys: ; put d 4: -; put e 5: -; put f 6: -; put g 7: d; keys: g f e"},
		{"a key that is gone is put again", 2, "put a 1; put b 2; put c 3: a; put a 4: b; all: a=4 c=3; put b 5: c; all: b=5 a=4"},
	} {
		t.Run(c.what, func(t *testing.T) {
			doAll(t, made[string, int](t, c.most), c.script)
		})
	}
}

// P11.1: the empty text is a key like others; the key that goes is told with true, though it is nothing.
func TestKeysThatAreNothing(t *testing.T) {
	x := made[string, int](t, 1)
	x.Put("", 5)
	if v, ok := x.Get(""); v != 5 || !ok || x.Len() != 1 {
		t.Error(v, ok, x.Len())
	}
	if k, went := x.Put("a", 6); k != "" || !went {
		t.Error(k, went)
	}
	y := made[int, int](t, 1)
	y.Put(0, 0)
	if v, ok := y.Look(0); v != 0 || !ok {
		t.Error(v, ok)
	}
	if k, went := y.Put(1, 0); k != 0 || !went || !slices.Equal(y.Keys(), []int{1}) {
		t.Error(k, went, y.Keys())
	}
}

// P11.1, P11.3: the greatest table; nothing that is done to it takes longer the more keys there are.
func TestGreat(t *testing.T) {
	const most = 100000
	x := made[int, string](t, most)
	for i := range most {
		if k, went := x.Put(i, strconv.Itoa(i)); k != 0 || went {
			t.Fatal(i, k, went)
		}
	}
	for i := range most {
		if k, went := x.Put(most+i, "new"); k != i || !went || x.Len() != most {
			t.Fatal(i, k, went, x.Len())
		}
	}
	want := 2*most - 1
	for k, v := range x.All() {
		if k != want || v != "new" {
			t.Fatal(k, v, want)
		}
		want--
		x.Get(k)
	}
	if keys := x.Keys(); len(keys) != most || keys[0] != most || keys[most-1] != 2*most-1 {
		t.Error(len(keys), keys[0])
	}
	for k := range x.All() {
		if k%2 == 0 && !x.Drop(k) {
			t.Fatal(k)
		}
	}
	if x.Len() != most/2 {
		t.Error(x.Len())
	}
}
