package table

import "iter"

// place is where a key stands in a row, with its value.
type place[K comparable, V any] struct {
	key          K
	value        V
	newer, older *place[K, V]
}

// stands is whether the place is in a row.
func (p *place[K, V]) stands() bool { return p.newer != nil }

// row is places one behind the other, the one that was used last first. Both of its ends are one place without a key, so that each other one always has two neighbours.
type row[K comparable, V any] struct {
	ends  *place[K, V]
	count int
}

func emptyRow[K comparable, V any]() row[K, V] {
	ends := &place[K, V]{}
	ends.newer, ends.older = ends, ends
	return row[K, V]{ends: ends}
}

// push lets a place that is in no row stand first.
func (r *row[K, V]) push(p *place[K, V]) {
	p.newer, p.older = r.ends, r.ends.older
	p.newer.older, p.older.newer = p, p
	r.count++
}

// take takes a place out of the row. It points at none of the others any more, so that whoever still has it keeps none of them.
func (r *row[K, V]) take(p *place[K, V]) {
	p.newer.older, p.older.newer = p.older, p.newer
	p.newer, p.older = nil, nil
	r.count--
}

// renew lets a place of the row stand first.
func (r *row[K, V]) renew(p *place[K, V]) {
	r.take(p)
	r.push(p)
}

// last is the place that was used longest ago, of a row that has any.
func (r *row[K, V]) last() *place[K, V] { return r.ends.newer }

// all goes over the places from the first one on; the row stays as it is meanwhile.
func (r *row[K, V]) all() iter.Seq[*place[K, V]] {
	return func(yield func(*place[K, V]) bool) {
		for p := r.ends.older; p != r.ends; p = p.older {
			if !yield(p) {
				return
			}
		}
	}
}
