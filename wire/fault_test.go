package wire_test

import (
	"strings"
	"testing"

	"guidepost/api"
	"guidepost/wire"
)

func faults(t *testing.T, what, s string, code int, want string) {
	t.Helper()
	if got, e := wire.Fault(s, code); got != want || e != api.OK {
		t.Errorf("%s: Fault(%q, %d) = %q, %v, not %q", what, s, code, got, e, want)
	}
	if m, e := wire.Parse(want); e != api.OK || m.Rcode != code || !m.Reply {
		t.Errorf("%s: %+v, %v", what, m, e)
	}
}

// P3.4: what stays of the header.
func TestFaultHead(t *testing.T) {
	nothing := strings.Repeat(root, 8)
	for _, c := range []struct{ head, want string }{
		{"0000 0000", "0000 8000"},
		{"abcd 0000", "abcd 8000"},
		{"0001 0100", "0001 8100"},
		{"0001 7800", "0001 F800"},
		{"0001 2800", "0001 A800"},
		{"ffff ffff", "ffff F900"},
		{"0001 86ff", "0001 8000"},
	} {
		faults(t, "the header", hx(c.head)+nothing, 0, hx(c.want)+nothing)
	}
	for code := range 16 {
		faults(t, "a code", hx("0001 010f")+nothing, code, hx("0001 81")+string([]byte{byte(code)})+nothing)
	}
}

// P3.4: the question, if there is just one, and it can be read.
func TestFaultQuestion(t *testing.T) {
	question := named("a", "B") + hx("1234 fedc")
	answer := head("8101", 1, 0, 0, 0) + question
	for _, c := range []struct{ what, s string }{
		{"a query", head("0100", 1, 0, 0, 0) + question},
		{"bytes left over", head("0100", 1, 0, 0, 0) + question + "garbage"},
		{"records that are not there", head("0100", 1, 9, 9, 9) + question},
		{"records that are none", head("0100", 1, 1, 0, 0) + question + to(12) + "garbage"},
		{"records that are right", head("0100", 1, 1, 0, 1) + question + rec(to(12), other, "d") + opt(root, 512, "00008000", "")},
		{"more than 4096 bytes", head("0100", 1, 0, 0, 0) + question + strings.Repeat("x", 5000)},
	} {
		faults(t, c.what, c.s, 1, answer)
	}
	faults(t, "the root", head("0000", 1, 0, 0, 0)+root+hx("0001 0001"), 4, head("8004", 1, 0, 0, 0)+root+hx("0001 0001"))
	faults(t, "the longest name", head("0000", 1, 0, 0, 0)+sized(255)+hx("0001 0001"), 4, head("8004", 1, 0, 0, 0)+sized(255)+hx("0001 0001"))
	faults(t, "into the header", head("0000", 1, 0, 0, 0)+"\x01x"+to(4)+hx("0001 0001"), 4, head("8004", 1, 0, 0, 0)+named("x")+hx("0001 0001"))
	for _, c := range []struct{ what, s string }{
		{"no question", head("0100", 0, 0, 0, 0) + question},
		{"two questions", head("0100", 2, 0, 0, 0) + question + question},
		{"257 questions", head("0100", 257, 0, 0, 0) + question},
		{"nothing behind the header", head("0100", 1, 0, 0, 0)},
		{"a question without its last byte", head("0100", 1, 0, 0, 0) + question[:8]},
		{"a name that has no end", head("0100", 1, 0, 0, 0) + "\x01a"},
		{"a pointer to itself", head("0100", 1, 0, 0, 0) + to(12) + hx("0001 0001")},
		{"a pointer forward", head("0100", 1, 0, 0, 0) + to(14) + root + hx("0001 0001")},
		{"no label", head("0100", 1, 0, 0, 0) + "\x40" + strings.Repeat("x", 80)},
		{"too long a name", head("0100", 1, 0, 0, 0) + sized(256) + hx("0001 0001")},
		{"far too long a name", head("0100", 1, 0, 0, 0) + sized(100001) + hx("0001 0001")},
	} {
		faults(t, c.what, c.s, 1, head("8101", 0, 0, 0, 0))
	}
}

// P3.4: what is no answer's beginning, and what is no code.
func TestFaultRefuses(t *testing.T) {
	s := head("0100", 1, 0, 0, 0) + named("a") + hx("0001 0001")
	for _, c := range []struct {
		s    string
		code int
		want api.Errno
	}{
		{"", 0, api.ErrHead}, {s[:1], 1, api.ErrHead}, {s[:11], 15, api.ErrHead}, {s[:11], 16, api.ErrHead}, {"", -1, api.ErrHead},
		{s, -1, api.ErrArg}, {s, 16, api.ErrArg}, {s, 256, api.ErrArg}, {s, -1 << 63, api.ErrArg}, {s, 1<<63 - 1, api.ErrArg}, {s[:12], 16, api.ErrArg},
	} {
		if got, e := wire.Fault(c.s, c.code); got != "" || e != c.want {
			t.Errorf("Fault(%q, %d) = %q, %v, not %v", c.s, c.code, got, e, c.want)
		}
	}
}
