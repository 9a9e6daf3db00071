package wire

import "guidepost/api"

// headSize is how many bytes stand ahead of a message's questions.
const headSize = 12

// The two bytes of flags, as one number.
const (
	replyFlag = 1 << 15
	opShift   = 11
	aaFlag    = 1 << 10
	tcFlag    = 1 << 9
	rdFlag    = 1 << 8
	raFlag    = 1 << 7
	adFlag    = 1 << 5
	cdFlag    = 1 << 4
)

// How many bits an Op has, an Rcode, and how many of the Rcode's stand among the flags: OPT has the others.
const (
	opBits    = 4
	wholeCode = 12
	lowCode   = 4
)

// head takes what stands ahead of the questions, and how many items each section has.
func (r *reader) head() (api.Message, [4]int) {
	id, flags := r.number(2), r.number(2)
	m := api.Message{
		ID:    id,
		Reply: flags&replyFlag != 0,
		Op:    lowest(flags>>opShift, opBits),
		AA:    flags&aaFlag != 0,
		TC:    flags&tcFlag != 0,
		RD:    flags&rdFlag != 0,
		RA:    flags&raFlag != 0,
		AD:    flags&adFlag != 0,
		CD:    flags&cdFlag != 0,
		Rcode: lowest(flags, lowCode),
	}
	var counts [4]int
	for i := range counts {
		counts[i] = r.number(2)
	}
	return m, counts
}

func (w *writer) head(m api.Message, counts [4]int) {
	w.number(m.ID, 2)
	w.number(flagsOf(m), 2)
	for _, count := range counts {
		w.number(count, 2)
	}
}

func flagsOf(m api.Message) int {
	flags := m.Op<<opShift | lowest(m.Rcode, lowCode)
	return flags |
		flagIf(m.Reply, replyFlag) |
		flagIf(m.AA, aaFlag) |
		flagIf(m.TC, tcFlag) |
		flagIf(m.RD, rdFlag) |
		flagIf(m.RA, raFlag) |
		flagIf(m.AD, adFlag) |
		flagIf(m.CD, cdFlag)
}

func flagIf(on bool, flag int) int {
	if on {
		return flag
	}
	return 0
}

// lowest is the number that the lowest bits of another one are.
func lowest(n, bits int) int {
	return n & (1<<bits - 1)
}

// fits tells whether a number has no more than so many bits.
func fits(n, bits int) bool {
	return n >= 0 && n>>bits == 0
}
