package name_test

import (
	"strings"
	"testing"

	"guidepost/api"
	"guidepost/name"
)

// P1.3
func TestEqual(t *testing.T) {
	for _, c := range []struct {
		a, b string
		want bool
	}{
		{root, root, true},
		{wire("a"), wire("A"), true},
		{wire("wWw", "Example"), wire("WwW", "eXAMPLE"), true},
		{wire("az"), wire("AZ"), true},
		{wire("a"), wire("b"), false},
		{wire("a"), root, false},
		{wire("a", "b"), wire("b"), false},
		{wire("a", "b"), wire("a.b"), false},
		{wire("a", "b"), wire("a\x01b"), false},
		{wire("@"), wire("`"), false},
		{wire("["), wire("{"), false},
		{wire("\xc1"), wire("\xe1"), false},
		{wire("\x00"), wire(" "), false},
		{wire("1"), wire("\x11"), false},
	} {
		if name.Equal(c.a, c.b) != c.want || name.Equal(c.b, c.a) != c.want {
			t.Errorf("Equal(%q, %q) is not %v", c.a, c.b, c.want)
		}
	}
	for _, n := range strays() {
		if name.Equal(n, n) || name.Equal(n, root) || name.Equal(root, n) {
			t.Errorf("%q is equal", n)
		}
	}
}

// P1.3
func TestUnder(t *testing.T) {
	for _, c := range []struct {
		a, b string
		want bool
	}{
		{root, root, true},
		{wire("a", "example"), root, true},
		{root, wire("a"), false},
		{wire("a", "Example"), wire("eXample"), true},
		{wire("A", "b", "c"), wire("B", "C"), true},
		{wire("a", "b", "c"), wire("a", "b", "c"), true},
		{wire("b", "c"), wire("a", "b", "c"), false},
		{wire("a", "b", "c"), wire("a", "b"), false},
		{wire("a", "b", "c"), wire("x", "c"), false},
		{wire("xample"), wire("example"), false},
		{wire("example"), wire("ample"), false},
		{wire("a\x01b"), wire("b"), false},
		{wire("x\x01b", "c"), wire("b", "c"), false},
		{wire("a", "@"), wire("`"), false},
		{long(255), long(253), true},
		{long(253), long(255), false},
	} {
		if name.Under(c.a, c.b) != c.want {
			t.Errorf("Under(%q, %q) is not %v", c.a, c.b, c.want)
		}
	}
	for _, n := range strays() {
		if name.Under(n, n) || name.Under(n, root) || name.Under(wire("a"), n) {
			t.Errorf("%q is under", n)
		}
	}
}

// P1.3
func TestParent(t *testing.T) {
	for _, c := range []struct{ n, want string }{
		{wire("a"), root},
		{wire("www", "Example"), wire("Example")},
		{wire("a\x01b", "c"), wire("c")},
		{wire(strings.Repeat("x", 63), "Y", "z"), wire("Y", "z")},
		{long(255), long(253)},
	} {
		if got, e := name.Parent(c.n); got != c.want || e != api.OK {
			t.Errorf("Parent(%q) = %q, %v", c.n, got, e)
		}
	}
	if got, e := name.Parent(root); got != "" || e != api.ErrArg {
		t.Errorf("Parent of the root: %q, %v", got, e)
	}
	for _, n := range strays() {
		if got, e := name.Parent(n); got != "" || e != api.ErrName {
			t.Errorf("Parent(%q) = %q, %v", n, got, e)
		}
	}
}

// P1.3
func TestCommon(t *testing.T) {
	for _, c := range []struct{ a, b, want string }{
		{wire("a", "b", "c"), wire("x", "B", "c"), wire("b", "c")},
		{wire("x", "B", "c"), wire("a", "b", "C"), wire("B", "c")},
		{wire("a", "b"), wire("a", "c"), root},
		{wire("a"), root, root},
		{root, wire("a"), root},
		{root, root, root},
		{wire("A", "b"), wire("a", "B"), wire("A", "b")},
		{wire("B"), wire("a", "b"), wire("B")},
		{wire("a", "B"), wire("b"), wire("B")},
		{wire("a\x01b"), wire("x", "b"), root},
		{wire("a", "x", "c"), wire("a", "y", "c"), wire("c")},
		{wire("@"), wire("`"), root},
		{long(255), long(253), long(253)},
	} {
		if got, e := name.Common(c.a, c.b); got != c.want || e != api.OK {
			t.Errorf("Common(%q, %q) = %q, %v", c.a, c.b, got, e)
		}
	}
	for _, n := range strays() {
		for _, pair := range [][2]string{{n, root}, {wire("a"), n}, {n, n}} {
			if got, e := name.Common(pair[0], pair[1]); got != "" || e != api.ErrName {
				t.Errorf("Common(%q, %q) = %q, %v", pair[0], pair[1], got, e)
			}
		}
	}
}

// P1.3
func TestChild(t *testing.T) {
	x63, x64 := strings.Repeat("x", 63), strings.Repeat("x", 64)
	for _, c := range []struct {
		label, n, want string
		e              api.Errno
	}{
		{"a", root, wire("a"), api.OK},
		{"www", wire("Example"), wire("www", "Example"), api.OK},
		{"\x00", wire("A"), wire("\x00", "A"), api.OK},
		{x63, wire("a"), wire(x63, "a"), api.OK},
		{"", wire("a"), "", api.ErrName},
		{x64, wire("a"), "", api.ErrName},
		{strings.Repeat("x", 257), wire("a"), "", api.ErrName},
		{"a", long(253), long(255), api.OK},
		{"ab", long(253), "", api.ErrLong},
		{"a", long(255), "", api.ErrLong},
		{x63, long(191), "\x3f" + x63 + long(191), api.OK},
		{x63, long(193), "", api.ErrLong},
		{x64, long(255), "", api.ErrName},
		{"", long(255), "", api.ErrName},
	} {
		if got, e := name.Child(c.label, c.n); got != c.want || e != c.e {
			t.Errorf("Child(%q, %q) = %q, %v", c.label, c.n, got, e)
		}
	}
	for _, n := range strays() {
		if got, e := name.Child("a", n); got != "" || e != api.ErrName {
			t.Errorf("Child(a, %q) = %q, %v", n, got, e)
		}
	}
}

// P1.4
func TestCompare(t *testing.T) {
	rising := []string{
		"", "\x01", "\x01A", "\x01a", "q", "\xff",
		root,
		wire("\x00"), wire("\x00", "\x00"), wire("\x00\x00"), wire("\x01"),
		wire("*"), wire("A"), wire("B", "a"), wire("z", "A"), wire("a", "z", "a"), wire("zz", "a"), wire("a", "zz", "a"), wire("a-"), wire("aa"), wire("a", "aa"), wire("b"),
		wire("a", "example"), wire("yljkjljk", "a", "example"), wire("Z", "a", "example"), wire("zABC", "a", "EXAMPLE"), wire("z", "example"),
		wire("\x01", "z", "example"), wire("*", "z", "example"), wire("\xc8", "z", "example"), wire("z"), wire("{"), wire("\x80"), wire("\xff"), wire("\xff\x00"),
	}
	for i, a := range rising {
		for j, b := range rising {
			want := 0
			if i < j {
				want = -1
			} else if i > j {
				want = 1
			}
			if got := name.Compare(a, b); got != want {
				t.Errorf("Compare(%q, %q) = %d, not %d", a, b, got, want)
			}
		}
	}
	for _, c := range []struct {
		a, b string
		want int
	}{
		{wire("z", "example"), wire("a", "z", "example"), -1},
		{wire("Z", "a"), wire("z", "A"), 0},
		{wire("_"), wire("A"), -1}, // small letters: 95 is before 97
		{wire("["), wire("A"), -1},
		{wire("a", "Z"), wire("b", "z"), -1},
		{wire("@"), wire("`"), -1},
		{long(253), long(255), -1},
		{long(255), long(257), 1},
		{long(259), long(257), 1},
	} {
		if name.Compare(c.a, c.b) != c.want || name.Compare(c.b, c.a) != -c.want {
			t.Errorf("Compare(%q, %q) is not %d", c.a, c.b, c.want)
		}
	}
}

// P1.5
func TestMoved(t *testing.T) {
	x63 := strings.Repeat("x", 63)
	for _, c := range []struct {
		n, from, to, want string
		e                 api.Errno
	}{
		{wire("a", "old"), wire("old"), wire("new", "test"), wire("a", "new", "test"), api.OK},
		{wire("A", "b", "Old"), wire("oLD"), wire("New"), wire("A", "b", "New"), api.OK},
		{wire("a", "old"), root, wire("new"), wire("a", "old", "new"), api.OK},
		{wire("a", "old"), wire("old"), root, wire("a"), api.OK},
		{wire("a", "b", "c"), wire("b", "c"), wire("b", "c"), wire("a", "b", "c"), api.OK},
		{wire("old"), wire("old"), wire("x"), "", api.ErrArg},
		{wire("OLD"), wire("old"), wire("x"), "", api.ErrArg},
		{root, root, wire("x"), "", api.ErrArg},
		{wire("old"), wire("a", "old"), wire("x"), "", api.ErrArg},
		{wire("a", "other"), wire("old"), wire("x"), "", api.ErrArg},
		{wire("a", "xld"), wire("old"), wire("x"), "", api.ErrArg},
		{wire("a\x03old"), wire("old"), wire("x"), "", api.ErrArg},
		{wire("a", "old"), wire("old"), long(253), long(255), api.OK},
		{wire("aa", "old"), wire("old"), long(253), "", api.ErrLong},
		{wire("a", "old"), wire("old"), long(255), "", api.ErrLong},
		{wire(x63, x63, "a"), wire("a"), wire(x63, x63[:61]), wire(x63, x63, x63, x63[:61]), api.OK},
		{wire(x63, x63, "a"), wire("a"), wire(x63, x63[:62]), "", api.ErrLong},
		{long(255), long(253), long(253), long(255), api.OK},
		{wire("old"), wire("old"), long(255), "", api.ErrArg},
		{wire("a", "b"), wire("c"), long(255), "", api.ErrArg},
	} {
		if got, e := name.Moved(c.n, c.from, c.to); got != c.want || e != c.e {
			t.Errorf("Moved(%q, %q, %q) = %q, %v", c.n, c.from, c.to, got, e)
		}
	}
	for _, n := range strays() {
		for _, three := range [][3]string{{n, root, root}, {wire("a"), n, root}, {wire("a"), root, n}, {n, n, n}, {root, root, n}, {wire("a"), wire("b"), n}} {
			if got, e := name.Moved(three[0], three[1], three[2]); got != "" || e != api.ErrName {
				t.Errorf("Moved(%q) = %q, %v", three, got, e)
			}
		}
	}
}

// P1.5
func TestCased(t *testing.T) {
	x := strings.Repeat("x", 63)
	for _, c := range []struct {
		n    string
		bits uint64
		want string
	}{
		{root, 1<<64 - 1, root},
		{wire("abc"), 5, wire("AbC")},
		{wire("ABC"), 5, wire("AbC")},
		{wire("ABC"), 0, wire("abc")},
		{wire("abc"), 1<<64 - 1, wire("ABC")},
		{wire("aBc", "-", "d"), 13, wire("AbC", "-", "D")},
		{wire("az", "AZ"), 6, wire("aZ", "Az")},
		{wire("@[`{\x00\xe1\xc1", "09", "a"), 1, wire("@[`{\x00\xe1\xc1", "09", "A")},
		{wire("@[`{\x00\xe1\xc1", "09", "a"), 2, wire("@[`{\x00\xe1\xc1", "09", "a")},
		{wire(x, "y", "z", "w"), 1 << 63, wire(x, "Y", "z", "w")},
		{wire(x, "y", "Z", "w"), 1, wire("X"+x[1:], "y", "Z", "w")},
		{wire(x, "y", x, "y", x, "y"), 1<<63 | 2, wire("xX"+x[2:], "Y", "xX"+x[2:], "Y", "xX"+x[2:], "Y")},
	} {
		if got, e := name.Cased(c.n, c.bits); got != c.want || e != api.OK {
			t.Errorf("Cased(%q, %x) = %q, %v", c.n, c.bits, got, e)
		}
	}
	for _, n := range strays() {
		if got, e := name.Cased(n, 1); got != "" || e != api.ErrName {
			t.Errorf("Cased(%q) = %q, %v", n, got, e)
		}
	}
}
