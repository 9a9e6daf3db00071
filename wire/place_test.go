package wire

import (
	"strings"
	"testing"
)

// P3.3: a pointer leads to places below 16384. No message that is told whole has others, so the writer alone is asked.
func TestFarPlaces(t *testing.T) {
	for _, c := range []struct {
		ahead     int
		want, end string
	}{
		{100, "\xc0\x64", "\xc0\x66"},
		{16381, "\xff\xfd", "\xff\xff"},
		{16382, "\xff\xfe", "\x01b\x00"},
		{16383, "\xff\xff", "\x01b\x00"},
		{16384, "\x01a\x01b\x00", "\x01b\x00"},
		{20000, "\x01a\x01b\x00", "\x01b\x00"},
		{65536, "\x01a\x01b\x00", "\x01b\x00"},
	} {
		w := &writer{places: map[string]int{}}
		w.bytes(strings.Repeat("x", c.ahead))
		w.name("\x01a\x01b\x00")
		for _, again := range []struct{ name, want string }{{"\x01a\x01b\x00", c.want}, {"\x01b\x00", c.end}, {"\x01a\x01b\x00", c.want}, {"\x00", "\x00"}} {
			before := len(w.out)
			w.name(again.name)
			if got := string(w.out[before:]); got != again.want {
				t.Errorf("%q, first at %d, is written again as %q, not %q", again.name, c.ahead, got, again.want)
			}
		}
	}
}
