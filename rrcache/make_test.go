package rrcache_test

import (
	"slices"
	"strconv"
	"strings"
	"testing"

	"guidepost/api"
	"guidepost/data"
	"guidepost/name"
	"guidepost/rrcache"
	"guidepost/rrset"
)

const lastTime = 1<<32 - 1

// must is what a call answers that is not to fail.
func must[T any](x T, e api.Errno) T {
	if e != api.OK {
		panic(e)
	}
	return x
}

func named(text string) string { return must(name.Parse(text)) }

// wrongNames are no names.
func wrongNames() []string {
	return []string{"", "a", "a.", ".", "\x01a", "\x02a\x00", "\x00\x00", "\x01a\x00\x00", "\x01A\x00a", "\x40" + strings.Repeat("a", 64) + "\x00", strings.Repeat("\x01a", 128) + "\x00"}
}

// spec is a set in words, and how it is put.
type spec struct {
	name, kind          string
	data, sigs          []string
	class, ttl          int
	rank, security, now int
}

// dataOf are data in a word: of A the last number of an address, of others their text, with `_` for a blank.
func dataOf(kind int, word string) string {
	if kind == api.TypeA {
		word = "10.0.0." + word
	}
	return must(data.Read(kind, strings.ReplaceAll(word, "_", " ")))
}

// sigOf are data of a signature that a word tells from others.
func sigOf(kind int, word string) string {
	return must(data.OfSig(api.Sig{Covered: kind, Alg: 8, Labels: 1, TTL: 9, End: 8, Begin: 7, Tag: 6, Signer: named("s."), Sign: word}))
}

// set is the set that is told in words.
func (p spec) set() api.Set {
	kind := must(data.TypeOf(p.kind))
	s := api.Set{Name: named(p.name), Type: kind, Class: p.class, TTL: p.ttl}
	for _, word := range p.data {
		s.Data = append(s.Data, dataOf(kind, word))
	}
	for _, word := range p.sigs {
		s.Sigs = append(s.Sigs, sigOf(kind, word))
	}
	return s
}

// put puts the set: `true`, `false` or `ErrArg`.
func (p spec) put(c *rrcache.Cache) string {
	return putOf(c.Put(p.set(), p.rank, p.security, p.now))
}

func putOf(ok bool, e api.Errno) string {
	switch {
	case e == api.ErrArg && !ok:
		return "ErrArg"
	case e != api.OK:
		return "not so: " + e.Error()
	}
	return strconv.FormatBool(ok)
}

// line is a line of a script taken apart: `put a. ttl=10 data=1,2`.
type line struct {
	what, name string
	values     map[string]string
}

func lineOf(text string) line {
	words := append(strings.Fields(text), "")
	x := line{words[0], "", map[string]string{}}
	for _, word := range words[1:] {
		if k, v, pair := strings.Cut(word, "="); pair {
			x.values[k] = v
		} else {
			x.name += word
		}
	}
	return x
}

// word is a value, or what it is where the line says nothing of it.
func (x line) word(k, other string) string {
	if v, has := x.values[k]; has {
		return v
	}
	return other
}

func (x line) number(k string, other int) int {
	n, err := strconv.Atoi(x.word(k, strconv.Itoa(other)))
	if err != nil {
		panic(err)
	}
	return n
}

func (x line) list(k, other string) []string {
	return strings.FieldsFunc(x.word(k, other), func(r rune) bool { return r == ',' })
}

func (x line) kind() int { return must(data.TypeOf(x.word("type", "A"))) }

func (x line) spec() spec {
	return spec{
		x.name, x.word("type", "A"), x.list("data", "1"), x.list("sigs", ""),
		x.number("class", api.IN), x.number("ttl", 10), x.number("rank", api.RankAnswer), x.number("sec", api.Unchecked), x.number("at", 0),
	}
}

// entryText is an entry in words: `a. A class=1 ttl=6 data=1,2 sigs= rank=3 sec=0 v=1 until=15`; `-` for nothing.
func entryText(x rrcache.Entry, found bool) string {
	s := x.Set
	if !found {
		if s.Name != "" || s.Type != 0 || s.Class != 0 || s.TTL != 0 || s.Data != nil || s.Sigs != nil || x.Rank != 0 || x.Security != 0 || x.Version != 0 || x.Until != 0 {
			return "not nothing"
		}
		return "-"
	}
	var list, signs []string
	for _, d := range s.Data {
		list = append(list, strings.ReplaceAll(strings.TrimPrefix(must(data.Text(s.Type, d)), "10.0.0."), " ", "_"))
	}
	for _, d := range s.Sigs {
		g := must(data.Sig(d))
		if g.Covered != s.Type {
			return "a signature of another type"
		}
		signs = append(signs, g.Sign)
	}
	words := []string{must(name.Text(s.Name)), must(data.TypeText(s.Type)), "class=" + strconv.Itoa(s.Class), "ttl=" + strconv.Itoa(s.TTL), "data=" + strings.Join(list, ","), "sigs=" + strings.Join(signs, ",")}
	for i, k := range []string{"rank=", "sec=", "v=", "until="} {
		words = append(words, k+strconv.Itoa([]int{x.Rank, x.Security, x.Version, x.Until}[i]))
	}
	return strings.Join(words, " ")
}

// do does what one line says, and tells what is answered.
func do(c *rrcache.Cache, text string) string {
	x := lineOf(text)
	switch x.what {
	case "put":
		return x.spec().put(c)
	case "get":
		return entryText(c.Get(named(x.name), x.kind(), x.number("at", 0)))
	case "mark":
		return strconv.FormatBool(c.Mark(named(x.name), x.kind(), x.number("v", 1), x.number("sec", api.Secure)))
	case "sweep":
		return strconv.Itoa(c.Sweep(x.number("at", 0)))
	case "len":
		return strconv.Itoa(c.Len())
	}
	return "no such line"
}

// doAll does lines that are told apart by `;`, each with words that it must answer behind `: ` (none: whatever it answers).
func doAll(t *testing.T, c *rrcache.Cache, script string) {
	t.Helper()
	for text := range strings.SplitSeq(script, ";") {
		what, want, _ := strings.Cut(text, ": ")
		got := do(c, what)
		if got == "no such line" || got == "not nothing" {
			t.Errorf("%s: %s", what, got)
		}
		for word := range strings.FieldsSeq(want) {
			if !slices.Contains(strings.Fields(got), word) {
				t.Errorf("%s\n%s: %q, want %s", script, strings.TrimSpace(what), got, word)
			}
		}
	}
}

// made is a cache of at most so many sets.
func made(t *testing.T, most int) *rrcache.Cache {
	t.Helper()
	c, e := rrcache.New(most)
	if c == nil || e != api.OK {
		t.Fatalf("New(%d): %v, %v", most, c, e)
	}
	return c
}

// scripts does each script with a cache of its own, of at most so many sets.
func scripts(t *testing.T, most int, list ...string) {
	t.Helper()
	for _, script := range list {
		doAll(t, made(t, most), script)
	}
}

// The sets of these tests are right where they are said to be.
func TestMade(t *testing.T) {
	for _, text := range []string{"put a.", "put a. data=1,2,3 sigs=x,y ttl=2147483647", "put A.b. type=NS data=n.a.,m. sigs=x", "put . type=TXT data=\"a\" ttl=0"} {
		if p := lineOf(text).spec(); !rrset.Right(p.set()) || p.class != api.IN {
			t.Error(text, p.set())
		}
	}
	for _, n := range wrongNames() {
		if name.Right(n) {
			t.Errorf("%q", n)
		}
	}
}
