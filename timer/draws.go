package timer

import "slices"

// Draws are numbers that are drawn.
type Draws struct{ left []uint64 }

// NewDraws are those of a list, then 0 for ever.
func NewDraws(l []uint64) *Draws { return &Draws{slices.Clone(l)} }

// Next is the next one, modulo n; below 1 there is nothing to draw of.
func (d *Draws) Next(n int) int {
	if n < 1 || len(d.left) == 0 {
		return 0
	}
	first := d.left[0]
	d.left = d.left[1:]
	return int(first % uint64(n))
}

// Left is how many of the list have not been drawn.
func (d *Draws) Left() int { return len(d.left) }
