package table_test

import (
	"math"
	"math/rand"
	"slices"
	"testing"
)

// P11.3: never more than most keys; of the last most keys that were used all are there that were not dropped.
func TestLastUsedAreThere(t *testing.T) {
	r := rand.New(rand.NewSource(113))
	for _, most := range []int{1, 2, 3, 5, 8, 20} {
		x := made[int, int](t, most)
		var used []int // each key once, the one that was used last first
		dropped := map[int]int{}
		use := func(k int) {
			used = slices.DeleteFunc(used, func(o int) bool { return o == k })
			used = slices.Insert(used, 0, k)
			delete(dropped, k)
		}
		for range 3000 {
			k := r.Intn(3 * most)
			switch r.Intn(6) {
			case 0, 1, 2:
				x.Put(k, k)
				use(k)
			case 3:
				if _, ok := x.Get(k); ok {
					use(k)
				}
			case 4:
				x.Look(k)
			case 5:
				if x.Drop(k) {
					dropped[k]++
				}
			}
			if x.Len() > most || len(x.Keys()) != x.Len() {
				t.Fatalf("most %d: %d keys, %v", most, x.Len(), x.Keys())
			}
			for _, k := range used[:min(most, len(used))] {
				if _, there := x.Look(k); there != (dropped[k] == 0) {
					t.Fatalf("most %d: used %v, dropped %v: %d is there: %v", most, used, dropped, k, there)
				}
			}
		}
	}
}

// P3: Keys is new memory each time, spare room too.
func TestKeysAreNew(t *testing.T) {
	x := made[string, int](t, 3)
	doAll(t, x, "put a 1; put b 2; put c 3")
	first, second := x.Keys(), x.Keys()
	first = first[:cap(first)]
	for i := range first {
		first[i] = "spoilt"
	}
	if !slices.Equal(second, []string{"c", "b", "a"}) {
		t.Error(second)
	}
	doAll(t, x, "keys: c b a; all: c=3 b=2 a=1; get a: 1; put d 4: b")
	if !slices.Equal(second, []string{"c", "b", "a"}) {
		t.Error("what was answered has changed:", second)
	}
}

// P4: a table hangs on nothing that is done to another one.
func TestTablesApart(t *testing.T) {
	x, y := made[string, int](t, 2), made[string, int](t, 2)
	doAll(t, x, "put a 1; put b 2")
	doAll(t, y, "len: 0; get a: -; put a 5: -; put c 6: -; put d 7: a")
	doAll(t, x, "all: b=2 a=1; drop b: true")
	doAll(t, y, "all: d=7 c=6; drop b: false; drop a: false")
}

// Values are kept as they are, of whatever kind.
func TestValues(t *testing.T) {
	x := made[string, []int](t, 2)
	x.Put("a", []int{1, 2})
	x.Put("b", nil)
	if v, ok := x.Get("a"); !ok || !slices.Equal(v, []int{1, 2}) {
		t.Error(v, ok)
	}
	if v, ok := x.Get("b"); !ok || v != nil {
		t.Error(v, ok)
	}
	if v, ok := x.Get("c"); ok || v != nil {
		t.Error(v, ok)
	}
}

// P1, P2: what can't be compared is no key: nothing panics, and nothing changes.
func TestNotToBeCompared(t *testing.T) {
	type holds struct{ what any }
	for _, full := range []bool{false, true} {
		x := made[any, int](t, 2)
		want := []any{}
		if full {
			x.Put("a", 1)
			x.Put(2, 2)
			want = []any{2, "a"}
		}
		for _, k := range []any{[]int{1}, map[string]int{}, func() {}, holds{[]int(nil)}, [1]any{[]int{}}, struct {
			f float64
			l []int
		}{math.NaN(), nil}} {
			if gone, went := x.Put(k, 3); gone != nil || went {
				t.Errorf("Put: %v %v", gone, went)
			}
			if v, ok := x.Get(k); v != 0 || ok {
				t.Errorf("Get: %v %v", v, ok)
			}
			if v, ok := x.Look(k); v != 0 || ok {
				t.Errorf("Look: %v %v", v, ok)
			}
			if x.Drop(k) || x.Len() != len(want) || !slices.Equal(x.Keys(), want) {
				t.Errorf("Drop, Len, Keys: %d %v", x.Len(), x.Keys())
			}
		}
	}
}

// P11.1 to P11.3: floats that are no number are never the same key: each is a new one, which nobody finds, and which goes like others.
func TestNoNumbers(t *testing.T) {
	x := made[float64, int](t, 3)
	none := math.NaN()
	x.Put(1, 1)
	for i := range 3 {
		gone, went := x.Put(none, 10+i)
		if went != (i == 2) || went != (gone == 1) {
			t.Error(i, gone, went)
		}
	}
	if v, ok := x.Get(none); v != 0 || ok || x.Drop(none) || x.Len() != 3 {
		t.Error(v, ok, x.Len())
	}
	var values []int
	for k, v := range x.All() {
		if k == k {
			t.Error(k)
		}
		values = append(values, v)
	}
	if !slices.Equal(values, []int{12, 11, 10}) {
		t.Error(values)
	}
	x.Put(2, 2)
	x.Put(3, 3)
	for k := range x.All() {
		x.Put(4, 4)
		if k != k {
			t.Error("told, though it is gone")
		}
	}
	if !slices.Equal(x.Keys(), []float64{4, 3, 2}) {
		t.Error(x.Keys())
	}
}
