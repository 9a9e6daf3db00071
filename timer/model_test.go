package timer_test

import (
	"math/rand"
	"slices"
	"testing"

	"guidepost/api"
	"guidepost/timer"
)

// due is when an id is due.
type due struct{ id, at int }

// model is the slow reading of the document: a list in no order.
type model struct{ list []due }

func (m *model) cancel(id int) bool {
	count := len(m.list)
	m.list = slices.DeleteFunc(m.list, func(d due) bool { return d.id == id })
	return len(m.list) < count
}

func (m *model) set(id, at int) api.Errno {
	if at < 0 {
		return api.ErrArg
	}
	m.cancel(id)
	m.list = append(m.list, due{id, at})
	return api.OK
}

func (m *model) next() (int, int, bool) {
	if len(m.list) == 0 {
		return 0, 0, false
	}
	best := m.list[0]
	for _, d := range m.list {
		if d.at < best.at || d.at == best.at && d.id < best.id {
			best = d
		}
	}
	return best.id, best.at, true
}

func (m *model) due(now int) []int {
	var ids []int
	for {
		id, at, ok := m.next()
		if !ok || at > now {
			return ids
		}
		m.cancel(id)
		ids = append(ids, id)
	}
}

// step does one drawn thing to both, and is what was done, and whether the answers are the same.
func step(r *rand.Rand, x *timer.Timer, m *model, ids, times int) (due, bool) {
	d := due{r.Intn(ids) - ids/2, r.Intn(times+2) - 2}
	switch r.Intn(7) {
	case 0:
		return d, x.Cancel(d.id) == m.cancel(d.id)
	case 1:
		return d, slices.Equal(x.Due(d.at), m.due(d.at))
	}
	return d, x.Set(d.id, d.at) == m.set(d.id, d.at)
}

// P12.1: drawn things done to timers of few and many ids and times.
func TestDrawn(t *testing.T) {
	r := rand.New(rand.NewSource(121))
	for round := range 300 {
		x, m := timer.New(), &model{}
		ids, times := 1+round%40, 1+round%23
		for n := range 200 {
			d, same := step(r, x, m, ids, times)
			id, at, ok := x.Next()
			wantID, wantAt, want := m.next()
			if !same || id != wantID || at != wantAt || ok != want || x.Len() != len(m.list) {
				t.Fatal(round, n, d, m.list, id, at, ok, x.Len())
			}
		}
		if got, want := x.Due(times), m.due(times); !slices.Equal(got, want) || x.Len() != 0 {
			t.Fatal(round, got, want)
		}
	}
}
