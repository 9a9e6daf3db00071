package timer

import (
	"math/rand"
	"testing"
)

// sound is whether the heap is one, and the map tells the place of each entry, and of nothing else.
func (p *plan) sound() bool {
	for i, e := range p.entries {
		if i > 0 && p.Less(i, (i-1)/2) || p.places[e.id] != i {
			return false
		}
	}
	return len(p.places) == len(p.entries)
}

// No more is kept than what is to be due, and what is due next is found without going over all.
func TestPlanStaysSound(t *testing.T) {
	r := rand.New(rand.NewSource(122))
	x := New()
	for n := range 20000 {
		switch id := r.Intn(60) - 20; r.Intn(8) {
		case 0, 1:
			x.Cancel(id)
		case 2:
			x.Due(r.Intn(40))
		default:
			x.Set(id, r.Intn(300)-3)
		}
		if !x.plan.sound() {
			t.Fatal(n, x.plan)
		}
	}
}
