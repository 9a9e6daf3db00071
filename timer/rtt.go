package timer

// What the fields of an Rtt may be, and what comes of them.
const (
	mostTime     = 1000000 // of a time that counts
	mostLost     = 10
	firstTimeout = 376 // where nothing is known
	leastTimeout = 50
	mostTimeout  = 12000
)

// Rtt is what is known of how long a server takes.
type Rtt struct{ Srtt, Var, Lost int }

// Sample is what is known behind a reply that took so long.
func (r Rtt) Sample(ms int) Rtt {
	r, ms = r.within(), within(ms, mostTime)
	if r.unknown() {
		return Rtt{Srtt: ms, Var: ms / 2}
	}
	d := ms - r.Srtt
	return Rtt{Srtt: r.Srtt + d/8, Var: r.Var + (max(d, -d)-r.Var)/4}
}

// Miss is what is known where no reply came.
func (r Rtt) Miss() Rtt {
	r = r.within()
	r.Lost = min(r.Lost+1, mostLost)
	return r
}

// Timeout is how long to wait.
func (r Rtt) Timeout() int {
	r = r.within()
	wait := r.Srtt + 4*r.Var
	if r.unknown() {
		wait = firstTimeout
	}
	// The bound is held to on both sides of the shift, so that it has room in ints of 32 bits.
	wait = min(max(wait, leastTimeout), mostTimeout)
	return min(wait<<r.Lost, mostTimeout)
}

// unknown is whether no reply has told anything yet.
func (r Rtt) unknown() bool { return r.Srtt == 0 && r.Var == 0 }

// within is an Rtt with its fields as they count.
func (r Rtt) within() Rtt {
	return Rtt{within(r.Srtt, mostTime), within(r.Var, mostTime), within(r.Lost, mostLost)}
}

// within is the number from 0 to most that n counts as.
func within(n, most int) int { return min(max(n, 0), most) }
