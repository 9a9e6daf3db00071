package timer_test

import (
	"strconv"
	"strings"
	"testing"

	"guidepost/timer"
)

// numbers reads numbers with spaces between.
func numbers(words []string) []int {
	var list []int
	for _, w := range words {
		n, e := strconv.Atoi(w)
		if e != nil {
			panic("no number: " + w)
		}
		list = append(list, n)
	}
	return list
}

// told tells numbers with spaces between.
func told(list []int) string {
	var words []string
	for _, n := range list {
		words = append(words, strconv.Itoa(n))
	}
	return strings.Join(words, " ")
}

// do does what one line says (`set 1 50`, `cancel 1`, `next`, `due 40`, `len`), and tells what is answered: of set the error's number, of next `-` for nothing.
func do(x *timer.Timer, line string) string {
	words := strings.Fields(line)
	args := append(numbers(words[1:]), 0, 0)
	switch words[0] {
	case "set":
		return strconv.Itoa(int(x.Set(args[0], args[1])))
	case "cancel":
		return strconv.FormatBool(x.Cancel(args[0]))
	case "next":
		id, at, ok := x.Next()
		switch {
		case ok:
			return told([]int{id, at})
		case id != 0 || at != 0:
			return "false with " + told([]int{id, at})
		}
		return "-"
	case "due":
		return told(x.Due(args[0]))
	case "len":
		return strconv.Itoa(x.Len())
	}
	panic("no such line: " + line)
}

// doAll does lines that are told apart by `;`, each with what it answers behind `:` (none: whatever it answers).
func doAll(t *testing.T, x *timer.Timer, script string) {
	t.Helper()
	for line := range strings.SplitSeq(script, ";") {
		what, want, asked := strings.Cut(line, ":")
		if got := do(x, what); asked && got != strings.TrimSpace(want) {
			t.Errorf("%s\n%s: %q, want %q", script, strings.TrimSpace(what), got, strings.TrimSpace(want))
		}
	}
}
