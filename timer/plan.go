package timer

// entry is when an id is due.
type entry struct{ id, at int }

// plan is a heap of all that is to be due (container/heap keeps its order, by the five methods). An id that is set again, or cancelled, stands anywhere in it: places tells where.
type plan struct {
	entries []entry
	places  map[int]int
}

// Len is how many there are.
func (p *plan) Len() int { return len(p.entries) }

// Less is whether the entry at i is due ahead of that at j.
func (p *plan) Less(i, j int) bool {
	a, b := p.entries[i], p.entries[j]
	if a.at != b.at {
		return a.at < b.at
	}
	return a.id < b.id
}

// Swap lets two entries change their places.
func (p *plan) Swap(i, j int) {
	p.entries[i], p.entries[j] = p.entries[j], p.entries[i]
	p.places[p.entries[i].id] = i
	p.places[p.entries[j].id] = j
}

// Push puts an entry behind all.
func (p *plan) Push(x any) {
	e := x.(entry)
	p.places[e.id] = len(p.entries)
	p.entries = append(p.entries, e)
}

// Pop takes the last entry away.
func (p *plan) Pop() any {
	last := len(p.entries) - 1
	e := p.entries[last]
	p.entries = p.entries[:last]
	delete(p.places, e.id)
	return e
}
