package name_test

import (
	"slices"
	"strings"
	"testing"

	"guidepost/api"
	"guidepost/name"
)

const root = "\x00"

// wire puts labels together as they are, right or not.
func wire(labels ...string) string {
	n := ""
	for _, label := range labels {
		n += string([]byte{byte(len(label))}) + label
	}
	return n + root
}

// long is a name of that many bytes, which are odd.
func long(size int) string {
	return strings.Repeat("\x01a", size/2) + root
}

// strays are no names.
func strays() []string {
	return []string{
		"", "\x01", "\x01a", "\x02a\x00", "\x03ab\x00", "\x00\x00", "\x01a\x00\x00", "\x01a\x00b", "\x00\x01a\x00", "abc", "abc\x00", "q",
		wire(strings.Repeat("x", 64)), wire("a", strings.Repeat("x", 64), "b"), "\x40" + strings.Repeat("x", 64), "\xc0\x0c", "\x01a\xc0\x00",
		long(257), long(255) + root, wire(strings.Repeat("x", 63), strings.Repeat("y", 63), strings.Repeat("z", 63), strings.Repeat("w", 62)),
		"\xff" + strings.Repeat("x", 255), strings.Repeat("\x01a", 127), strings.Repeat(root, 300),
	}
}

// someNames are names, edges among them.
func someNames() []string {
	return []string{
		root, wire("a"), wire("A"), wire("www", "Example"), wire("a.b", "c"), wire("\x00"), wire("\x01a\x00"), wire(strings.Repeat("x", 63)),
		wire("\xff", "\x80"), wire(" ", "\\", "*"), long(253), long(255),
		wire(strings.Repeat("X", 63), strings.Repeat("y", 63), strings.Repeat("Z", 63), strings.Repeat("w", 61)),
	}
}

// P1.1
func TestRight(t *testing.T) {
	for _, n := range someNames() {
		if !name.Right(n) {
			t.Errorf("Right(%q) is false", n)
		}
	}
	for _, n := range strays() {
		if name.Right(n) {
			t.Errorf("Right(%q) is true", n)
		}
	}
	for size := range 256 {
		n := string([]byte{byte(size)}) + strings.Repeat("x", size) + root
		if want := size <= 63 && size > 0; name.Right(n) != want {
			t.Errorf("Right of a label of %d bytes is %v", size, !want)
		}
	}
}

// P1.1
func TestLabels(t *testing.T) {
	for _, want := range [][]string{{}, {"www", "Example"}, {"a.b", "c"}, {"\x01a\x00", "\x00"}, {strings.Repeat("x", 63)}} {
		if got := name.Labels(wire(want...)); !slices.Equal(got, want) {
			t.Errorf("Labels(%q) = %q", wire(want...), got)
		}
	}
	if got := name.Labels(long(255)); len(got) != 127 {
		t.Errorf("%d labels of 127", len(got))
	}
	for _, n := range strays() {
		if got := name.Labels(n); len(got) != 0 {
			t.Errorf("Labels(%q) = %q", n, got)
		}
	}
}

// P1.1, P3: a list that was answered is its owner's alone.
func TestLabelsAreNew(t *testing.T) {
	n := wire("a", "b", "c")
	first, second := name.Labels(n), name.Labels(n)
	_ = append(first[:1], "x", "y", "z")
	first[0] = "w"
	if !slices.Equal(second, []string{"a", "b", "c"}) || !slices.Equal(name.Labels(n), second) {
		t.Errorf("%q", second)
	}
}

// P1.1
func TestOf(t *testing.T) {
	x63, x64 := strings.Repeat("x", 63), strings.Repeat("x", 64)
	ones := slices.Repeat([]string{"a"}, 128)
	for _, c := range []struct {
		labels []string
		want   string
		e      api.Errno
	}{
		{nil, root, api.OK},
		{[]string{}, root, api.OK},
		{[]string{"www", "Example"}, "\x03www\x07Example\x00", api.OK},
		{[]string{"a.b", "\x00"}, "\x03a.b\x01\x00\x00", api.OK},
		{[]string{x63}, "\x3f" + x63 + root, api.OK},
		{[]string{x64}, "", api.ErrName},
		{[]string{""}, "", api.ErrName},
		{[]string{"a", ""}, "", api.ErrName},
		{[]string{"", "a"}, "", api.ErrName},
		{[]string{"a", x64, "b"}, "", api.ErrName},
		{[]string{strings.Repeat("x", 256)}, "", api.ErrName},
		{[]string{strings.Repeat("x", 257)}, "", api.ErrName},
		{ones[:127], long(255), api.OK},
		{ones, "", api.ErrLong},
		{[]string{x63, x63, x63, x63[:61]}, wire(x63, x63, x63, x63[:61]), api.OK},
		{[]string{x63, x63, x63, x63[:62]}, "", api.ErrLong},
		{[]string{x63, x63, x63, x63}, "", api.ErrLong},
		{[]string{x63, x63, x63, x63, "a"}, "", api.ErrLong},
		{slices.Repeat([]string{"a"}, 100000), "", api.ErrLong},
		{append(slices.Clone(ones), ""), "", api.ErrName},
		{append(slices.Clone(ones), x64), "", api.ErrName},
		{append([]string{x64}, ones...), "", api.ErrName},
	} {
		if got, e := name.Of(c.labels); got != c.want || e != c.e {
			t.Errorf("Of(%.300q) = %q, %v", c.labels, got, e)
		}
	}
}

// P1.1, P3
func TestOfLeavesItsArgument(t *testing.T) {
	labels := []string{"A", "B", "C", "D"}
	name.Of(labels[:2])
	if !slices.Equal(labels, []string{"A", "B", "C", "D"}) {
		t.Errorf("%q", labels)
	}
}

// P1.1
func TestLower(t *testing.T) {
	every := ""
	low := ""
	for b := range 256 {
		every += string([]byte{byte(b)})
		if b >= 'A' && b <= 'Z' {
			b += 32
		}
		low += string([]byte{byte(b)})
	}
	for at := 0; at < 256; at += 32 {
		if got := name.Lower(wire(every[at : at+32])); got != wire(low[at:at+32]) {
			t.Errorf("Lower of the bytes from %d on: %q", at, got)
		}
	}
	if got := name.Lower(wire("WWW", "eXample", "A-9")); got != wire("www", "example", "a-9") {
		t.Errorf("%q", got)
	}
	if got := name.Lower(root); got != root {
		t.Errorf("%q", got)
	}
	for _, n := range append(strays(), "ABC", "\x03ABC", wire("ABC")+"X", wire(strings.Repeat("X", 64))) {
		if got := name.Lower(n); got != n {
			t.Errorf("Lower(%q) = %q", n, got)
		}
	}
}
