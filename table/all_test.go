package table_test

import (
	"slices"
	"strconv"
	"strings"
	"testing"

	"guidepost/table"
)

// told ranges over a table, does what meanwhile has for a key when that is told, and tells what was told.
func told(t *testing.T, x *table.Table[string, int], meanwhile map[string]string) string {
	t.Helper()
	var list []string
	for k, v := range x.All() {
		list = append(list, k+"="+strconv.Itoa(v))
		if script, has := meanwhile[k]; has {
			doAll(t, x, script)
		}
		if len(list) > 20 {
			t.Fatal("no end:", list)
		}
	}
	return strings.Join(list, " ")
}

type meanwhile = map[string]string

// P11.2: the order is that of the beginning; what is done to the table meanwhile is done to what is told then.
func TestAllMeanwhile(t *testing.T) {
	for _, c := range []struct {
		what      string
		meanwhile meanwhile
		told      string
		left      string
	}{
		{"nothing", nil, "d=4 c=3 b=2 a=1", "d=4 c=3 b=2 a=1"},
		{"the one that is told then is dropped", meanwhile{"c": "drop c: true"}, "d=4 c=3 b=2 a=1", "d=4 b=2 a=1"},
		{"the first one is dropped", meanwhile{"d": "drop d: true"}, "d=4 c=3 b=2 a=1", "c=3 b=2 a=1"},
		{"the last one is dropped", meanwhile{"a": "drop a: true"}, "d=4 c=3 b=2 a=1", "d=4 c=3 b=2"},
		{"the next one is dropped", meanwhile{"c": "drop b: true"}, "d=4 c=3 a=1", "d=4 c=3 a=1"},
		{"the last one is dropped ahead", meanwhile{"d": "drop a: true"}, "d=4 c=3 b=2", "d=4 c=3 b=2"},
		{"one that was told is dropped", meanwhile{"b": "drop d: true"}, "d=4 c=3 b=2 a=1", "c=3 b=2 a=1"},
		{"it and the next one are dropped", meanwhile{"c": "drop c: true; drop b: true"}, "d=4 c=3 a=1", "d=4 a=1"},
		{"the next one and it are dropped", meanwhile{"c": "drop b: true; drop c: true"}, "d=4 c=3 a=1", "d=4 a=1"},
		{"each is dropped", meanwhile{"d": "drop d", "c": "drop c", "b": "drop b", "a": "drop a"}, "d=4 c=3 b=2 a=1", ""},
		{"all are dropped", meanwhile{"d": "drop a; drop b; drop c; drop d; len: 0"}, "d=4", ""},
		{"all others are dropped", meanwhile{"c": "drop a; drop b; drop d"}, "d=4 c=3", "c=3"},
		{"it is got", meanwhile{"c": "get c: 3"}, "d=4 c=3 b=2 a=1", "c=3 d=4 b=2 a=1"},
		{"each is got", meanwhile{"d": "get d", "c": "get c", "b": "get b", "a": "get a"}, "d=4 c=3 b=2 a=1", "a=1 b=2 c=3 d=4"},
		{"one that is not told yet is got", meanwhile{"d": "get a: 1"}, "d=4 c=3 b=2 a=1", "a=1 d=4 c=3 b=2"},
		{"the next one is got", meanwhile{"c": "get b: 2"}, "d=4 c=3 b=2 a=1", "b=2 d=4 c=3 a=1"},
		{"one that was told is got", meanwhile{"a": "get c: 3"}, "d=4 c=3 b=2 a=1", "c=3 d=4 b=2 a=1"},
		{"they are looked at", meanwhile{"c": "look a: 1; look b: 2; look c: 3; look d: 4; keys: d c b a"}, "d=4 c=3 b=2 a=1", "d=4 c=3 b=2 a=1"},
		{"one that is not there is got, looked at, dropped", meanwhile{"c": "get q: -; look q: -; drop q: false"}, "d=4 c=3 b=2 a=1", "d=4 c=3 b=2 a=1"},
		{"a new one is put", meanwhile{"c": "put e 5: -"}, "d=4 c=3 b=2 a=1", "e=5 d=4 c=3 b=2 a=1"},
		{"a new one at the last", meanwhile{"a": "put e 5: -"}, "d=4 c=3 b=2 a=1", "e=5 d=4 c=3 b=2 a=1"},
		{"a new one each time", meanwhile{"d": "put e 5: -", "c": "put f 6: a", "b": "put g 7: b"}, "d=4 c=3 b=2", "g=7 f=6 e=5 d=4 c=3"},
		{"a new one, and it goes", meanwhile{"c": "put e 5: -; drop e: true"}, "d=4 c=3 b=2 a=1", "d=4 c=3 b=2 a=1"},
		{"new ones let others go", meanwhile{"d": "put e 5: -; put f 6: a; put g 7: b"}, "d=4 c=3", "g=7 f=6 e=5 d=4 c=3"},
		{"new ones let it go", meanwhile{"d": "put e 5: -; put f 6: a; put g 7: b; put h 8: c; put i 9: d"}, "d=4", "i=9 h=8 g=7 f=6 e=5"},
		{"one is got, so that another goes", meanwhile{"d": "get a: 1; put e 5: -; put f 6: b"}, "d=4 c=3 a=1", "f=6 e=5 a=1 d=4 c=3"},
		{"it has another value", meanwhile{"c": "put c 30: -"}, "d=4 c=3 b=2 a=1", "c=30 d=4 b=2 a=1"},
		{"one that is not told yet has another value", meanwhile{"d": "put b 20: -"}, "d=4 c=3 b=20 a=1", "b=20 d=4 c=3 a=1"},
		{"one that is not told yet has two others", meanwhile{"d": "put a 10: -", "b": "put a 100: -"}, "d=4 c=3 b=2 a=100", "a=100 d=4 c=3 b=2"},
		{"one that was told has another value", meanwhile{"b": "put d 40: -"}, "d=4 c=3 b=2 a=1", "d=40 c=3 b=2 a=1"},
		{"it is dropped, and put again", meanwhile{"c": "drop c: true; put c 30: -"}, "d=4 c=3 b=2 a=1", "c=30 d=4 b=2 a=1"},
		{"the next one is dropped, and put again", meanwhile{"c": "drop b: true; put b 20: -"}, "d=4 c=3 b=20 a=1", "b=20 d=4 c=3 a=1"},
		{"the last one is dropped, and put again later", meanwhile{"d": "drop a: true", "b": "put a 10: -"}, "d=4 c=3 b=2 a=10", "a=10 d=4 c=3 b=2"},
		{"one is dropped, and put again too late", meanwhile{"d": "drop c: true", "b": "put c 30: -"}, "d=4 b=2 a=1", "c=30 d=4 b=2 a=1"},
		{"one that was told is dropped, and put again", meanwhile{"b": "drop d: true; put d 40: -"}, "d=4 c=3 b=2 a=1", "d=40 c=3 b=2 a=1"},
		{"one is dropped, put again, and dropped", meanwhile{"d": "drop b; put b 20; drop b"}, "d=4 c=3 a=1", "d=4 c=3 a=1"},
		{"one goes, and is put again", meanwhile{"d": "put e 5: -; put f 6: a; put a 10: b"}, "d=4 c=3 a=10", "a=10 f=6 e=5 d=4 c=3"},
	} {
		t.Run(c.what, func(t *testing.T) {
			x := made[string, int](t, 5)
			doAll(t, x, "put a 1; put b 2; put c 3; put d 4")
			if got := told(t, x, c.meanwhile); got != c.told {
				t.Errorf("%q, want %q", got, c.told)
			}
			if got := do(x, "all"); got != c.left {
				t.Errorf("then %q, want %q", got, c.left)
			}
		})
	}
}

// P11.2: what is told is what there is when it is ranged over, not when All was called; and each time anew.
func TestAllTwice(t *testing.T) {
	x := made[string, int](t, 3)
	all := x.All()
	for _, step := range []struct{ script, told string }{
		{"len: 0", ""},
		{"put a 1; put b 2", "b=2 a=1"},
		{"len: 2", "b=2 a=1"},
		{"get a", "a=1 b=2"},
		{"put b 3; put c 4", "c=4 b=3 a=1"},
		{"put d 5", "d=5 c=4 b=3"},
		{"drop c", "d=5 b=3"},
		{"drop d; drop b", ""},
	} {
		doAll(t, x, step.script)
		if got := pairs(all); got != step.told {
			t.Errorf("behind %s: %q, want %q", step.script, got, step.told)
		}
	}
}

// P11.2: two that range over one table at one time, one inside of the other, are told on their own.
func TestAllInside(t *testing.T) {
	x := made[string, int](t, 4)
	doAll(t, x, "put a 1; put b 2; put c 3")
	all := x.All()
	var outer, inner []string
	for k := range all {
		outer = append(outer, k)
		for k, v := range all {
			inner = append(inner, k+strconv.Itoa(v))
			if v == 2 {
				x.Drop("a")
				x.Put("d", 4)
			}
		}
		inner = append(inner, "|")
	}
	if got := strings.Join(outer, " "); got != "c b" {
		t.Error("outer:", got)
	}
	if got := strings.Join(inner, " "); got != "c3 b2 | d4 c3 b2 |" {
		t.Error("inner:", got)
	}
}

// P11.2: who stops is told no more, and may begin again.
func TestAllStopped(t *testing.T) {
	x := made[string, int](t, 4)
	doAll(t, x, "put a 1; put b 2; put c 3")
	all := x.All()
	for stop := 1; stop <= 3; stop++ {
		times := 0
		all(func(string, int) bool {
			times++
			return times < stop
		})
		if times != stop {
			t.Errorf("stopped at %d: told %d times", stop, times)
		}
	}
	for k := range all {
		x.Drop(k)
		break
	}
	doAll(t, x, "all: b=2 a=1; keys: b a; len: 2; put d 4: -; put e 5: -; put f 6: a")
}

// P11.2: All has the order of Keys.
func TestAllIsKeys(t *testing.T) {
	x := made[string, int](t, 4)
	for _, line := range []string{"put a 1", "put b 2", "get a", "put c 3", "put a 4", "put d 5", "get b", "put e 6", "drop d", "get c", "put f 7", "look b", "put g 8"} {
		do(x, line)
		var keys []string
		for k, v := range x.All() {
			keys = append(keys, k)
			if now, ok := x.Look(k); now != v || !ok {
				t.Errorf("behind %s: %s has %d, told as %d", line, k, now, v)
			}
		}
		if !slices.Equal(keys, x.Keys()) || len(keys) != x.Len() {
			t.Errorf("behind %s: All %v, Keys %v, Len %d", line, keys, x.Keys(), x.Len())
		}
	}
}

// Whoever panics while it is told is not kept from it, and the table is as it was.
func TestAllLeft(t *testing.T) {
	x := made[string, int](t, 4)
	doAll(t, x, "put a 1; put b 2")
	func() {
		defer func() {
			if got := recover(); got != "left" {
				t.Error(got)
			}
		}()
		for range x.All() {
			panic("left")
		}
	}()
	doAll(t, x, "all: b=2 a=1")
}
