package table

import (
	"math"
	"math/rand"
	"testing"

	"guidepost/api"
)

// sound is whether row and map tell the same, and the row is linked in both directions.
func (t *Table[K, V]) sound() bool {
	all, count := 0, 0
	for p := range t.row.all() {
		all++
		if p.newer.older != p || p.older.newer != p || p.key == p.key && t.places[p.key] != p {
			return false
		}
		if p.key == p.key {
			count++
		}
	}
	return all == t.row.count && count == len(t.places) && t.row.ends.older.newer == t.row.ends && t.row.ends.newer.older == t.row.ends
}

// No more is kept than the keys that are there: what goes is in the map no more, and points at none of the others.
func TestNoMoreIsKept(t *testing.T) {
	r := rand.New(rand.NewSource(114))
	x, e := New[float64, int](5)
	if e != api.OK || !x.sound() {
		t.Fatal(e)
	}
	keys := []float64{math.NaN(), 0, math.Copysign(0, -1), 1, 2, 3, 4, 5, 6, 7, math.Inf(1)}
	for range 5000 {
		k := keys[r.Intn(len(keys))]
		p := x.places[k]
		switch r.Intn(4) {
		case 0, 1:
			x.Put(k, 1)
		case 2:
			x.Get(k)
		case 3:
			if x.Drop(k) && (p.newer != nil || p.older != nil) {
				t.Fatal("it still points at others")
			}
		}
		if !x.sound() || x.row.count > 5 || len(x.places) > 5 {
			t.Fatal(k, x.Keys(), x.Len(), len(x.places))
		}
	}
}
