package zone

import (
	"iter"
	"slices"

	"guidepost/name"
)

// down goes over the names from the apex down to n, which is under it, in the letters of n.
func down(apex, n string) iter.Seq[string] {
	return func(yield func(string) bool) {
		names := []string{n}
		// Of the ends of a name under the apex just one is as long as the apex: the apex itself.
		for above := n; len(above) > len(apex); {
			above, _ = name.Parent(above) // it is longer than a name
			names = append(names, above)
		}
		for _, at := range slices.Backward(names) {
			if !yield(at) {
				return
			}
		}
	}
}
