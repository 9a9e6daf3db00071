package wire_test

import (
	"math/rand"
	"testing"

	"guidepost/api"
	"guidepost/wire"
)

func drawBytes(r *rand.Rand, least, most int) string {
	s := make([]byte, least+r.Intn(most-least+1))
	for i := range s {
		s[i] = byte(r.Intn(256))
		if r.Intn(2) == 0 {
			s[i] = "\x00\x01\x0c\xc0aAb"[r.Intn(7)]
		}
	}
	return string(s)
}

// drawName is a name of few labels, so that there are many alike.
func drawName(r *rand.Rand) string {
	few := []string{"a", "A", "b", "bc", "a", "\x00", "\x01a", "a-longer-one"}
	var labels []string
	for range r.Intn(5) {
		labels = append(labels, few[r.Intn(len(few))])
	}
	return named(labels...)
}

func drawRecord(r *rand.Rand) api.Record {
	kinds := []int{api.TypeA, api.TypeNS, api.TypeCNAME, api.TypeSOA, api.TypeMX, api.TypeDNAME, api.TypeTXT, api.TypeRRSIG, api.TypeNSEC, other, api.TypeANY, 0}
	x := api.Record{Name: drawName(r), Type: kinds[r.Intn(len(kinds))], Class: []int{1, 1, 254, 255, 0, 65535}[r.Intn(6)], TTL: r.Intn(1 << 32)}
	switch x.Type {
	case api.TypeA:
		x.Data = drawBytes(r, 4, 4)
	case api.TypeNS, api.TypeCNAME, api.TypeDNAME, api.TypeNSEC:
		x.Data = drawName(r)
	case api.TypeMX:
		x.Data = drawBytes(r, 2, 2) + drawName(r)
	case api.TypeSOA:
		x.Data = drawName(r) + drawName(r) + drawBytes(r, 20, 20)
	case api.TypeRRSIG:
		x.Data = drawBytes(r, 18, 18) + drawName(r) + drawBytes(r, 1, 9)
	case api.TypeTXT:
		s := drawBytes(r, 0, 9)
		x.Data = string([]byte{byte(len(s))}) + s
	default:
		x.Data = drawBytes(r, 0, 9)
	}
	return x
}

func drawRecords(r *rand.Rand, most int) []api.Record {
	var list []api.Record
	for range r.Intn(most + 1) {
		list = append(list, drawRecord(r))
	}
	return list
}

func drawMessage(r *rand.Rand, most int) api.Message {
	coin := func() bool { return r.Intn(2) == 0 }
	m := api.Message{
		ID: r.Intn(1 << 16), Reply: coin(), Op: r.Intn(16), AA: coin(), TC: coin(), RD: coin(), RA: coin(), AD: coin(), CD: coin(), Rcode: r.Intn(16),
		Answer: drawRecords(r, most), Authority: drawRecords(r, most), Extra: drawRecords(r, most),
	}
	if r.Intn(4) > 0 {
		m.Ask = []api.Question{{Name: drawName(r), Type: r.Intn(1 << 16), Class: r.Intn(1 << 16)}}
	}
	if coin() {
		m.Rcode = r.Intn(1 << 12)
		m.Edns = api.Edns{Has: true, Size: r.Intn(1 << 16), Do: coin(), Version: r.Intn(1 << 8)}
		for range r.Intn(3) {
			m.Edns.Options += options(4 + r.Intn(9))
		}
	}
	return m
}

// slowAnswer is what Write should answer of a message that can be told, and the message that its bytes are.
func slowAnswer(m api.Message, limit int) (string, api.Message, bool, api.Errno) {
	if s := slowWrite(m); len(s) <= limit {
		return s, m, true, api.OK
	}
	m.TC, m.Answer, m.Authority, m.Extra = true, nil, nil, nil
	if s := slowWrite(m); len(s) <= limit {
		return s, m, false, api.OK
	}
	return "", api.Message{}, false, api.ErrLong
}

// P3.2, P3.3, P3.5: what is written, and parsed again.
func TestThereAndBack(t *testing.T) {
	r := rand.New(rand.NewSource(1))
	seen := map[string]int{}
	for round := range 4000 {
		m := drawMessage(r, []int{1, 4, 9, 20, 20, 50}[round%6])
		if round%20 == 0 {
			m.Edns = api.Edns{Has: true, Options: options(300 + r.Intn(400))}
		}
		limit := []int{512, 4096, 512 + r.Intn(3585)}[r.Intn(3)]
		want, left, all, wantError := slowAnswer(m, limit)
		s, gotAll, e := wire.Write(m, limit)
		if s != want || gotAll != all || e != wantError {
			t.Fatalf("Write(%+v, %d) = %q, %v, %v, not %q, %v, %v", m, limit, s, gotAll, e, want, all, wantError)
		}
		switch {
		case e != api.OK:
			seen["long"]++
			continue
		case all:
			seen["whole"]++
		default:
			seen["cut"]++
		}
		takes(t, "there and back", s, left)
	}
	if seen["long"] < 20 || seen["whole"] < 1000 || seen["cut"] < 500 {
		t.Error(seen)
	}
}

// spoil is s with some bytes more, less, or others: pointers to somewhere among them.
func spoil(r *rand.Rand, s string) string {
	at := r.Intn(len(s))
	few := "\x00\x01\x02\x3f\x40\xc0\xff\x0c\x29a"
	which := r.Intn(len(few))
	put := few[which : which+1]
	switch r.Intn(6) {
	case 0:
		return s[:at] + put + s[at:]
	case 1:
		return s[:at] + s[at+1:]
	case 2:
		return s[:at] + put + s[at+1:]
	case 3:
		return s[:at]
	}
	if at+2 > len(s) {
		return s + put
	}
	return s[:at] + to(r.Intn(at+3)) + s[at+2:]
}

// P3.1, P3.4, P3.5: of bytes that somehow changed. P1, P2: whatever comes is answered.
func TestSpoilt(t *testing.T) {
	r := rand.New(rand.NewSource(2))
	right, wrong := 0, 0
	for round := range 60000 {
		s := slowWrite(drawMessage(r, []int{1, 2, 6}[round%3]))
		for range 1 + r.Intn(4) {
			if len(s) > 0 {
				s = spoil(r, s)
			}
		}
		checkFault(t, s, r.Intn(16))
		if len(s) < 12 || len(s) > api.MaxMessage {
			continue
		}
		want, ok := slowParse(s)
		if !ok {
			refuses(t, "spoilt", s, api.ErrBody)
			wrong++
			continue
		}
		takes(t, "spoilt", s, want)
		checkAgain(t, want)
		right++
	}
	if right < 5000 || wrong < 5000 {
		t.Error(right, wrong)
	}
}

// checkAgain: what Parse took is written again, and parsed, the same.
func checkAgain(t *testing.T, m api.Message) {
	t.Helper()
	s, all, e := wire.Write(m, api.MaxMessage)
	if e != api.OK || all != (len(slowWrite(m)) <= api.MaxMessage) {
		t.Errorf("Write(%+v) = %q, %v, %v", m, s, all, e)
	}
	if all {
		takes(t, "again", s, m)
	}
}

// checkFault: the question is told just if it can be read; nothing else is.
func checkFault(t *testing.T, s string, code int) {
	t.Helper()
	got, e := wire.Fault(s, code)
	if len(s) < 12 {
		if got != "" || e != api.ErrHead {
			t.Errorf("Fault(%q) = %q, %v", s, got, e)
		}
		return
	}
	want := api.Message{ID: at16(s, 0), Reply: true, Op: at16(s, 2) >> 11 & 15, RD: at16(s, 2)>>8&1 == 1, Rcode: code}
	if q, ok := slowQuestion(s); ok && at16(s, 4) == 1 {
		want.Ask = []api.Question{q}
	}
	if m, pe := wire.Parse(got); e != api.OK || pe != api.OK || !same(m, want) {
		t.Errorf("Fault(%q, %d) = %q, %v: %+v, %v, not %+v", s, code, got, e, m, pe, want)
	}
}

// P1, P2: of bytes that are mostly none.
func TestNoise(t *testing.T) {
	r := rand.New(rand.NewSource(3))
	for range 20000 {
		s := head("0100", r.Intn(2), r.Intn(3), r.Intn(2), r.Intn(2)) + drawBytes(r, 0, 60)
		checkFault(t, s, r.Intn(16))
		if want, ok := slowParse(s); ok {
			takes(t, "noise", s, want)
			checkAgain(t, want)
		} else {
			refuses(t, "noise", s, api.ErrBody)
		}
	}
}
