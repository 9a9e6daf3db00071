package name_test

import (
	"math/rand"
	"slices"
	"strings"
	"testing"

	"guidepost/api"
	"guidepost/name"
)

// draw makes labels of few and awkward bytes, so that names often share ends, or nearly do.
func draw(r *rand.Rand) []string {
	const bytes = "aAbBzZ@[`{.\\\x00\x01\x02 09\x7f\x80\xc1\xe1\xff"
	labels := make([]string, r.Intn(5))
	for i := range labels {
		label := make([]byte, 1+r.Intn(3))
		for j := range label {
			label[j] = bytes[r.Intn(len(bytes))]
			if r.Intn(2) == 0 {
				label[j] = "aA\x01"[r.Intn(3)]
			}
		}
		labels[i] = string(label)
	}
	return labels
}

// drawNames are names, with edges and strays among them if they are asked for.
func drawNames(count int, more ...string) []string {
	r := rand.New(rand.NewSource(1))
	list := append(slices.Clone(more), someNames()...)
	for len(list) < count {
		n, _ := name.Of(draw(r))
		list = append(list, n)
	}
	return list
}

// P1.6, T6
func TestTextAndBack(t *testing.T) {
	for _, n := range drawNames(3000) {
		text, e := name.Text(n)
		if e != api.OK {
			t.Fatalf("Text(%q): %v", n, e)
		}
		if got, e := name.Parse(text); got != n || e != api.OK {
			t.Errorf("%q, told as %q, is %q, %v", n, text, got, e)
		}
		short, e := name.Parse(strings.TrimSuffix(text, "."))
		if n != root && (short != n || e != api.OK) {
			t.Errorf("%q, told as %q without its last dot, is %q, %v", n, text, short, e)
		}
	}
}

// P1.6, T6: a text that Parse takes is told again as itself, if it is a text as Text makes them.
func TestParseAndBack(t *testing.T) {
	for _, text := range []string{".", "a.", "www.Example.", `a\.b.c.`, `\\.`, `\000\255.`, `\032.`, `*.~.`} {
		n, e := name.Parse(text)
		if got, te := name.Text(n); got != text || e != api.OK || te != api.OK {
			t.Errorf("%q is told again as %q, %v, %v", text, got, e, te)
		}
	}
	for text, want := range map[string]string{"a": "a.", `\097.`: "a.", `\a.`: "a.", `\ .`: `\032.`, `\046.`: `\..`, `\092.`: `\\.`} {
		n, _ := name.Parse(text)
		if got, _ := name.Text(n); got != want {
			t.Errorf("%q is told again as %q", text, got)
		}
	}
}

// P1.6
func TestLabelsOfOf(t *testing.T) {
	r := rand.New(rand.NewSource(2))
	for range 3000 {
		labels := draw(r)
		n, e := name.Of(labels)
		if e != api.OK || n != wire(labels...) || !slices.Equal(name.Labels(n), labels) {
			t.Errorf("%q: %q, %v, %q", labels, n, e, name.Labels(n))
		}
	}
	for _, n := range someNames() {
		if got, e := name.Of(name.Labels(n)); got != n || e != api.OK {
			t.Errorf("Of the labels of %q: %q, %v", n, got, e)
		}
	}
}

// P1.6: Compare is an order, of names and strays; 0 are names that are Equal, and no others.
func TestCompareIsAnOrder(t *testing.T) {
	list := drawNames(220, strays()...)
	slices.SortStableFunc(list, name.Compare)
	for i, a := range list {
		for j, b := range list {
			got := name.Compare(a, b)
			if got < -1 || got > 1 || got != -name.Compare(b, a) {
				t.Errorf("Compare(%q, %q) = %d, the other way %d", a, b, got, name.Compare(b, a))
			}
			if i < j && got > 0 {
				t.Errorf("%q and %q are not in order", a, b)
			}
			if want := name.Equal(a, b) || !name.Right(a) && a == b; (got == 0) != want {
				t.Errorf("Compare(%q, %q) = %d, but Equal says otherwise", a, b, got)
			}
			if name.Right(a) && !name.Right(b) && got != 1 {
				t.Errorf("%q is not behind %q", a, b)
			}
		}
	}
}

// P1.6
func TestUnderIsCommon(t *testing.T) {
	list := drawNames(300)
	for _, a := range list {
		for _, b := range list {
			common, e := name.Common(a, b)
			if e != api.OK {
				t.Fatalf("Common(%q, %q): %v", a, b, e)
			}
			if name.Under(a, b) != name.Equal(common, b) {
				t.Errorf("Under(%q, %q) is %v, Common is %q", a, b, name.Under(a, b), common)
			}
			if !strings.HasSuffix(a, common) || !name.Under(a, common) || !name.Under(b, common) {
				t.Errorf("Common(%q, %q) = %q", a, b, common)
			}
			if other, _ := name.Common(b, a); !name.Equal(common, other) {
				t.Errorf("Common(%q, %q) = %q, the other way %q", a, b, common, other)
			}
		}
	}
}

// P1.3, P1.5 against each other: what was put ahead is taken off, what was moved there is moved back.
func TestThereAndBack(t *testing.T) {
	list := drawNames(120)
	for _, n := range list {
		if child, e := name.Child("New", n); e == api.OK {
			if got, e := name.Parent(child); got != n || e != api.OK || !name.Under(child, n) || name.Under(n, child) {
				t.Errorf("Parent(%q) = %q, %v", child, got, e)
			}
		}
		if cased, e := name.Cased(n, 0x5a5a0ff0a5a5f00f); e != api.OK || !name.Equal(cased, n) || name.Lower(cased) != name.Lower(n) {
			t.Errorf("Cased(%q) = %q, %v", n, cased, e)
		}
		for _, to := range list {
			child, e := name.Child("New", n)
			if e != api.OK {
				continue
			}
			moved, e := name.Moved(child, n, to)
			if e == api.ErrLong && len(to)+4 > api.MaxName {
				continue
			}
			if back, be := name.Moved(moved, to, n); e != api.OK || be != api.OK || back != child {
				t.Errorf("%q moved from %q to %q: %q, %v; and back %q, %v", child, n, to, moved, e, back, be)
			}
		}
	}
}

// P1, P2: whatever the bytes are, each call answers; a name that it answers is one; beside an error there is none.
func TestAnyBytes(t *testing.T) {
	r := rand.New(rand.NewSource(3))
	for range 20000 {
		a, b, c := drawBytes(r), drawBytes(r), drawBytes(r)
		name.Labels(a)
		name.Lower(a)
		name.Equal(a, b)
		name.Under(a, b)
		name.Compare(a, b)
		for _, answer := range [](func() (string, api.Errno)){
			func() (string, api.Errno) { return name.Of([]string{a, b, c}) },
			func() (string, api.Errno) { return name.Parse(a) },
			func() (string, api.Errno) { return name.Parent(a) },
			func() (string, api.Errno) { return name.Common(a, b) },
			func() (string, api.Errno) { return name.Child(a, b) },
			func() (string, api.Errno) { return name.Moved(a, b, c) },
			func() (string, api.Errno) { return name.Cased(a, r.Uint64()) },
		} {
			if n, e := answer(); (e == api.OK) != name.Right(n) || e != api.OK && n != "" {
				t.Fatalf("%q %q %q: %q, %v", a, b, c, n, e)
			}
		}
		if text, e := name.Text(a); (e == api.OK) != name.Right(a) || (e == api.OK) != (text != "") {
			t.Fatalf("Text(%q) = %q, %v", a, text, e)
		}
	}
}

// drawBytes are bytes that are sometimes a name, sometimes nearly one, sometimes a text.
func drawBytes(r *rand.Rand) string {
	n := []byte(wire(draw(r)...))
	switch r.Intn(4) {
	case 0:
		n[r.Intn(len(n))] = byte(r.Intn(256))
	case 1:
		n = n[:r.Intn(len(n))]
	case 2:
		text, _ := name.Text(string(n))
		return text
	}
	return string(n)
}
