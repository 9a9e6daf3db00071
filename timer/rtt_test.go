package timer_test

import (
	"math"
	"math/rand"
	"testing"

	"guidepost/timer"
)

// rtt is one of these fields.
func rtt(srtt, vari, lost int) timer.Rtt { return timer.Rtt{Srtt: srtt, Var: vari, Lost: lost} }

const (
	least = math.MinInt
	most  = math.MaxInt
)

// P12.2: what is known behind a reply.
func TestSample(t *testing.T) {
	for _, c := range []struct {
		r    timer.Rtt
		ms   int
		want timer.Rtt
	}{
		// The chapter's examples.
		{rtt(0, 0, 0), 100, rtt(100, 50, 0)},
		{rtt(100, 50, 0), 180, rtt(110, 57, 0)},
		// The first one; Lost alone tells nothing of it.
		{rtt(0, 0, 0), 0, rtt(0, 0, 0)},
		{rtt(0, 0, 0), 1, rtt(1, 0, 0)},
		{rtt(0, 0, 0), 101, rtt(101, 50, 0)},
		{rtt(0, 0, 0), 999999, rtt(999999, 499999, 0)},
		{rtt(0, 0, 0), 1000000, rtt(1000000, 500000, 0)},
		{rtt(0, 0, 7), 100, rtt(100, 50, 0)},
		{rtt(0, 0, -3), 9, rtt(9, 4, 0)},
		// Samples below 0 and beyond the most.
		{rtt(0, 0, 0), -1, rtt(0, 0, 0)},
		{rtt(0, 0, 0), least, rtt(0, 0, 0)},
		{rtt(0, 0, 0), 1000001, rtt(1000000, 500000, 0)},
		{rtt(0, 0, 0), most, rtt(1000000, 500000, 0)},
		{rtt(80, 40, 0), -8, rtt(70, 50, 0)},
		{rtt(80, 40, 0), 0, rtt(70, 50, 0)},
		{rtt(80, 40, 0), least, rtt(70, 50, 0)},
		{rtt(999200, 0, 0), 1000800, rtt(999300, 200, 0)},
		{rtt(999200, 0, 0), most, rtt(999300, 200, 0)},
		// Fields below 0, at the most and beyond it.
		{rtt(-5, -5, -5), 100, rtt(100, 50, 0)},
		{rtt(least, least, least), 100, rtt(100, 50, 0)},
		{rtt(-5, 40, 0), 80, rtt(10, 50, 0)},
		{rtt(80, -5, 0), 160, rtt(90, 20, 0)},
		{rtt(1000000, 1000000, 10), 1000000, rtt(1000000, 750000, 0)},
		{rtt(1000001, 1000001, 11), 1000000, rtt(1000000, 750000, 0)},
		{rtt(most, most, most), 0, rtt(875000, 1000000, 0)},
		{rtt(most, most, most), most, rtt(1000000, 750000, 0)},
		{rtt(2000000, 0, 0), 0, rtt(875000, 250000, 0)},
		// Srtt 0 with Var not 0, and the other way round.
		{rtt(0, 4, 0), 0, rtt(0, 3, 0)},
		{rtt(0, 1, 0), 0, rtt(0, 1, 0)},
		{rtt(0, 8, 0), 80, rtt(10, 26, 0)},
		{rtt(0, 1, 2), 8, rtt(1, 2, 0)},
		{rtt(1, 0, 0), 1, rtt(1, 0, 0)},
		{rtt(1, 0, 0), 0, rtt(1, 0, 0)},
		{rtt(80, 0, 0), 160, rtt(90, 20, 0)},
		// Less than Srtt, equal to it, greater than it.
		{rtt(100, 20, 0), 100, rtt(100, 15, 0)},
		{rtt(100, 20, 3), 100, rtt(100, 15, 0)},
		{rtt(100, 50, 0), 20, rtt(90, 57, 0)},
		{rtt(100, 40, 0), 20, rtt(90, 50, 0)},
		{rtt(100, 80, 0), 20, rtt(90, 80, 0)},
		{rtt(100, 80, 0), 180, rtt(110, 80, 0)},
		{rtt(100, 200, 0), 180, rtt(110, 170, 0)},
		// Differences that 8 and 4 do not divide.
		{rtt(100, 0, 0), 107, rtt(100, 1, 0)},
		{rtt(100, 0, 0), 93, rtt(100, 1, 0)},
		{rtt(100, 0, 0), 109, rtt(101, 2, 0)},
		{rtt(100, 0, 0), 91, rtt(99, 2, 0)},
		{rtt(100, 0, 0), 115, rtt(101, 3, 0)},
		{rtt(100, 0, 0), 85, rtt(99, 3, 0)},
		{rtt(100, 10, 0), 103, rtt(100, 9, 0)},
		{rtt(100, 10, 0), 97, rtt(100, 9, 0)},
		{rtt(100, 10, 0), 107, rtt(100, 10, 0)},
		{rtt(100, 10, 0), 93, rtt(100, 10, 0)},
		{rtt(100, 10, 0), 117, rtt(102, 11, 0)},
		{rtt(100, 10, 0), 83, rtt(98, 11, 0)},
		// Lost is 0.
		{rtt(100, 0, 10), 100, rtt(100, 0, 0)},
		{rtt(100, 0, 99), 100, rtt(100, 0, 0)},
	} {
		if got := c.r.Sample(c.ms); got != c.want {
			t.Errorf("%v.Sample(%d): %v, want %v", c.r, c.ms, got, c.want)
		}
	}
}

// P12.2: what is known where no reply came; the fields count as they do everywhere.
func TestMiss(t *testing.T) {
	for _, c := range []struct{ r, want timer.Rtt }{
		{rtt(0, 0, 0), rtt(0, 0, 1)},
		{rtt(110, 57, 0), rtt(110, 57, 1)},
		{rtt(110, 57, 1), rtt(110, 57, 2)},
		{rtt(1, 2, 8), rtt(1, 2, 9)},
		{rtt(1, 2, 9), rtt(1, 2, 10)},
		{rtt(1, 2, 10), rtt(1, 2, 10)},
		{rtt(1, 2, 11), rtt(1, 2, 10)},
		{rtt(1, 2, most), rtt(1, 2, 10)},
		{rtt(1, 2, -1), rtt(1, 2, 1)},
		{rtt(1, 2, least), rtt(1, 2, 1)},
		{rtt(-1, -1, 0), rtt(0, 0, 1)},
		{rtt(least, least, 3), rtt(0, 0, 4)},
		{rtt(1000000, 1000000, 0), rtt(1000000, 1000000, 1)},
		{rtt(1000001, 1000001, 0), rtt(1000000, 1000000, 1)},
		{rtt(most, most, 0), rtt(1000000, 1000000, 1)},
	} {
		if got := c.r.Miss(); got != c.want {
			t.Errorf("%v.Miss(): %v, want %v", c.r, got, c.want)
		}
	}
}

// P12.2: how long to wait.
func TestTimeout(t *testing.T) {
	for _, c := range []struct {
		r    timer.Rtt
		want int
	}{
		// The chapter's examples.
		{rtt(0, 0, 0), 376},
		{rtt(100, 50, 0), 300},
		{rtt(110, 57, 1), 676},
		// Below the least, at it and above it; that stands ahead of the doubling.
		{rtt(1, 0, 0), 50},
		{rtt(0, 1, 0), 50},
		{rtt(49, 0, 0), 50},
		{rtt(50, 0, 0), 50},
		{rtt(51, 0, 0), 51},
		{rtt(0, 12, 0), 50},
		{rtt(1, 12, 0), 50},
		{rtt(0, 13, 0), 52},
		{rtt(1, 1, 3), 400},
		{rtt(49, 0, 1), 100},
		{rtt(1, 0, 10), 12000},
		// What is told of one of which nothing is, too, may be told of what is known.
		{rtt(376, 0, 0), 376},
		{rtt(0, 94, 0), 376},
		// At the most and beyond it.
		{rtt(11999, 0, 0), 11999},
		{rtt(12000, 0, 0), 12000},
		{rtt(12001, 0, 0), 12000},
		{rtt(0, 2999, 0), 11996},
		{rtt(0, 3000, 0), 12000},
		{rtt(0, 3001, 0), 12000},
		{rtt(6000, 0, 1), 12000},
		{rtt(5999, 0, 1), 11998},
		{rtt(6001, 0, 1), 12000},
		{rtt(750, 0, 4), 12000},
		{rtt(749, 0, 4), 11984},
		{rtt(1000000, 1000000, 10), 12000},
		{rtt(1000001, 1000001, 11), 12000},
		{rtt(most, most, most), 12000},
		{rtt(most, 0, 0), 12000},
		{rtt(0, most, 0), 12000},
		// What is below 0 counts as 0.
		{rtt(-1, -1, -1), 376},
		{rtt(least, least, least), 376},
		{rtt(-100, 50, 0), 200},
		{rtt(100, -50, 0), 100},
		{rtt(100, 50, -1), 300},
		{rtt(100, 50, least), 300},
		{rtt(least, 50, 1), 400},
	} {
		if got := c.r.Timeout(); got != c.want {
			t.Errorf("%v.Timeout(): %d, want %d", c.r, got, c.want)
		}
	}
	for lost, want := range []int{376, 752, 1504, 3008, 6016, 12000, 12000, 12000, 12000, 12000, 12000, 12000, 12000} {
		if got := rtt(0, 0, lost).Timeout(); got != want {
			t.Errorf("lost %d: %d, want %d", lost, got, want)
		}
	}
	for lost, want := range []int{50, 100, 200, 400, 800, 1600, 3200, 6400, 12000, 12000, 12000, 12000} {
		if got := rtt(7, 2, lost).Timeout(); got != want {
			t.Errorf("lost %d: %d, want %d", lost, got, want)
		}
	}
}

// P12.2: one behind the other, from nothing on; an Rtt is a value, which no call changes.
func TestRttGoesOn(t *testing.T) {
	r := timer.Rtt{}
	for _, c := range []struct {
		ms   int // below 0: no reply
		want timer.Rtt
		wait int
	}{
		{-1, rtt(0, 0, 1), 752},
		{-1, rtt(0, 0, 2), 1504},
		{100, rtt(100, 50, 0), 300},
		{-1, rtt(100, 50, 1), 600},
		{20, rtt(90, 57, 0), 318},
		{90, rtt(90, 43, 0), 262},
		{1000000, rtt(125078, 250009, 0), 12000},
	} {
		before := r
		next := before.Miss()
		if c.ms >= 0 {
			next = before.Sample(c.ms)
		}
		if before != r || next != c.want || next.Timeout() != c.wait || next != c.want {
			t.Errorf("%v, %d: %v, %d, want %v, %d", r, c.ms, next, next.Timeout(), c.want, c.wait)
		}
		r = next
	}
}

// near is a drawn number, often one beside an edge.
func near(r *rand.Rand) int {
	edges := []int{0, 1, 8, 10, 12, 50, 376, 3000, 12000, 500000, 1000000, least + 3, most - 3}
	switch r.Intn(4) {
	case 0:
		return r.Intn(1000001)
	case 1:
		return r.Intn(3000)
	}
	return edges[r.Intn(len(edges))] + r.Intn(5) - 2
}

// P12.4: a Timeout is from 50 to 12000; a sample lets Srtt come nearer, never beyond.
func TestRttFollows(t *testing.T) {
	r := rand.New(rand.NewSource(124))
	for range 200000 {
		x, ms := rtt(near(r), near(r), near(r)), near(r)
		y := x.Sample(ms)
		for _, wait := range []int{x.Timeout(), x.Miss().Timeout(), y.Timeout()} {
			if wait < 50 || wait > 12000 {
				t.Fatal(x, ms, wait)
			}
		}
		if x.Miss().Timeout() < x.Timeout() {
			t.Fatal(x, "waits less long behind a miss")
		}
		from, to := min(max(x.Srtt, 0), 1000000), min(max(ms, 0), 1000000)
		if y.Srtt < min(from, to) || y.Srtt > max(from, to) || y.Var < 0 || y.Var > 1000000 || y.Lost != 0 {
			t.Fatal(x, ms, y)
		}
		if far := max(from-to, to-from); far >= 8 && max(y.Srtt-to, to-y.Srtt) >= far {
			t.Fatal(x, ms, y, "comes no nearer")
		}
	}
}
