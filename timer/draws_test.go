package timer_test

import (
	"math"
	"slices"
	"testing"

	"guidepost/timer"
)

// P12.3: what is drawn of a list, and how many are left behind each.
func TestDraws(t *testing.T) {
	type draw struct{ n, want, left int }
	for _, c := range []struct {
		what  string
		list  []uint64
		draws []draw
	}{
		{"the chapter's example", []uint64{7, 9}, []draw{{5, 2, 1}, {0, 0, 1}, {5, 4, 0}, {5, 0, 0}}},
		{"no numbers", nil, []draw{{5, 0, 0}, {1, 0, 0}, {0, 0, 0}, {-1, 0, 0}, {math.MaxInt, 0, 0}, {5, 0, 0}}},
		{"an empty list", []uint64{}, []draw{{5, 0, 0}, {0, 0, 0}, {5, 0, 0}}},
		{"one", []uint64{12}, []draw{{10, 2, 0}, {10, 0, 0}, {10, 0, 0}}},
		{"below 1 none is drawn", []uint64{7, 9}, []draw{{0, 0, 2}, {-1, 0, 2}, {-5, 0, 2}, {math.MinInt, 0, 2}, {5, 2, 1}, {-5, 0, 1}, {math.MinInt, 0, 1}, {10, 9, 0}, {-1, 0, 0}, {0, 0, 0}}},
		{"of 1", []uint64{7, 9, 1 << 63, math.MaxUint64}, []draw{{1, 0, 3}, {1, 0, 2}, {1, 0, 1}, {1, 0, 0}, {1, 0, 0}}},
		{"noughts are drawn like others", []uint64{0, 0, 3}, []draw{{5, 0, 2}, {5, 0, 1}, {5, 3, 0}}},
		{"great n", []uint64{5, math.MaxInt - 1, math.MaxInt, 1 << 62}, []draw{{math.MaxInt, 5, 3}, {math.MaxInt, math.MaxInt - 1, 2}, {math.MaxInt, 0, 1}, {1<<62 + 1, 1 << 62, 0}}},
		{"numbers of 2^63 and beyond", []uint64{1 << 63, 1<<63 + 6, math.MaxUint64, math.MaxUint64, 1 << 63, 1<<63 + 1}, []draw{{5, 3, 5}, {10, 4, 4}, {10, 5, 3}, {math.MaxInt, 1, 2}, {math.MaxInt, 1, 1}, {1 << 62, 1, 0}}},
		{"just n, one less, one more", []uint64{4, 5, 6}, []draw{{5, 4, 2}, {5, 0, 1}, {5, 1, 0}}},
	} {
		x := timer.NewDraws(c.list)
		if x.Left() != len(c.list) {
			t.Errorf("%s: Left %d", c.what, x.Left())
		}
		for i, d := range c.draws {
			if got := x.Next(d.n); got != d.want || x.Left() != d.left || x.Left() != d.left {
				t.Errorf("%s, %d: Next(%d): %d, want %d; Left %d, want %d", c.what, i, d.n, got, d.want, x.Left(), d.left)
			}
		}
	}
}

// P12.3, P3: the list is not kept and not changed, nor what stands behind it in its array; one list may be drawn of twice.
func TestDrawsKeepNoList(t *testing.T) {
	all := []uint64{7, 9, 11, 13}
	x, y := timer.NewDraws(all[:2]), timer.NewDraws(all[:2])
	if x.Next(100) != 7 {
		t.Error("the first one")
	}
	if !slices.Equal(all, []uint64{7, 9, 11, 13}) {
		t.Error(all)
	}
	for i := range all {
		all[i] = 50
	}
	if x.Next(100) != 9 || x.Left() != 0 || x.Next(100) != 0 {
		t.Error("a change of the list is seen")
	}
	if y.Left() != 2 || y.Next(100) != 7 || y.Next(100) != 9 || y.Next(100) != 0 {
		t.Error("one hangs on the other")
	}
	if !slices.Equal(all, []uint64{50, 50, 50, 50}) {
		t.Error(all)
	}
}

// P12.3: behind the end 0 for ever.
func TestDrawsEnd(t *testing.T) {
	x := timer.NewDraws([]uint64{3})
	x.Next(10)
	for n := range 1000 {
		if x.Next(n+1) != 0 || x.Left() != 0 {
			t.Fatal(n)
		}
	}
}
