package table_test

import (
	"iter"
	"strconv"
	"strings"
	"testing"

	"guidepost/api"
	"guidepost/table"
)

// made is a table of at most so many keys.
func made[K comparable, V any](t *testing.T, most int) *table.Table[K, V] {
	t.Helper()
	x, e := table.New[K, V](most)
	if x == nil || e != api.OK {
		t.Fatalf("New(%d): %v, %v", most, x, e)
	}
	return x
}

// found tells a value that is there, `-` for nothing. What comes with a false must be nothing.
func found[T comparable](v T, ok bool, text func(T) string) string {
	var none T
	switch {
	case ok:
		return text(v)
	case v != none:
		return "false with " + text(v)
	}
	return "-"
}

func itself(s string) string { return s }

// pairs tells what is told of keys and values.
func pairs(all iter.Seq2[string, int]) string {
	var list []string
	for k, v := range all {
		list = append(list, k+"="+strconv.Itoa(v))
	}
	return strings.Join(list, " ")
}

// do does what one line says (`put a 1`, `get a`, `look a`, `drop a`, `len`, `keys`, `all`), and tells what is answered.
func do(x *table.Table[string, int], line string) string {
	words := append(strings.Fields(line), "", "")
	k := words[1]
	switch words[0] {
	case "put":
		v, _ := strconv.Atoi(words[2])
		gone, went := x.Put(k, v)
		return found(gone, went, itself)
	case "get":
		v, ok := x.Get(k)
		return found(v, ok, strconv.Itoa)
	case "look":
		v, ok := x.Look(k)
		return found(v, ok, strconv.Itoa)
	case "drop":
		return strconv.FormatBool(x.Drop(k))
	case "len":
		return strconv.Itoa(x.Len())
	case "keys":
		return strings.Join(x.Keys(), " ")
	case "all":
		return pairs(x.All())
	}
	return "no such line"
}

// doAll does lines that are told apart by `;`, each with what it answers behind `:` (none: whatever it answers).
func doAll(t *testing.T, x *table.Table[string, int], script string) {
	t.Helper()
	for line := range strings.SplitSeq(script, ";") {
		what, want, asked := strings.Cut(line, ":")
		if got := do(x, what); got == "no such line" || asked && got != strings.TrimSpace(want) {
			t.Errorf("%s\n%s: %q, want %q", script, strings.TrimSpace(what), got, strings.TrimSpace(want))
		}
	}
}
