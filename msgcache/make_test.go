package msgcache_test

import (
	"slices"
	"strconv"
	"strings"
	"testing"

	"guidepost/api"
	"guidepost/data"
	"guidepost/msgcache"
	"guidepost/name"
	"guidepost/rrcache"
)

const lastTime = 1<<32 - 1

// must is what a call answers that is not to fail.
func must[T any](x T, e api.Errno) T {
	if e != api.OK {
		panic(e)
	}
	return x
}

func named(text string) string { return must(name.Parse(text)) }

// kindOf is a type by its text, or by a number that may be none.
func kindOf(text string) int {
	if n, err := strconv.Atoi(text); err == nil {
		return n
	}
	return must(data.TypeOf(text))
}

// wrongNames are no names.
func wrongNames() []string {
	return []string{"", "a", "a.", ".", "\x01a", "\x02a\x00", "\x00\x00", "\x01a\x00\x00", "\x01A\x00a", "\x40" + strings.Repeat("a", 64) + "\x00", strings.Repeat("\x01a", 128) + "\x00"}
}

// dataOf are data in a word: of A the last number of an address, of SOA the Minimum, of others their text; `bad` for what is none.
func dataOf(kind int, word string) string {
	switch {
	case word == "bad":
		return "\x00"
	case kind == api.TypeA:
		return must(data.Read(kind, "10.0.0."+word))
	case kind == api.TypeSOA:
		n, _ := strconv.Atoi(word)
		return must(data.OfSoa(api.Soa{Primary: named("p."), Mail: named("m."), Serial: 1, Refresh: 2, Retry: 3, Expire: 4, Minimum: n}))
	}
	return must(data.Read(kind, word))
}

// dataWord is the word of data.
func dataWord(kind int, d string) string {
	if kind == api.TypeSOA {
		return strconv.Itoa(must(data.Soa(d)).Minimum)
	}
	return strings.TrimPrefix(must(data.Text(kind, d)), "10.0.0.")
}

// sigOf are data of a signature that a word tells from others.
func sigOf(kind int, word string) string {
	return must(data.OfSig(api.Sig{Covered: kind, Alg: 8, Labels: 1, TTL: 9, End: 8, Begin: 7, Tag: 6, Signer: named("s."), Sign: word}))
}

// setOf is a set in words, of which those behind the type may be missing: `a./A/10/1+2/x+y`.
func setOf(text string) api.Set {
	words := strings.Split(text, "/")
	words = append(words, []string{"", "A", "10"}[min(len(words), 3):]...)
	words = append(words, []string{ordinary(kindOf(words[1])), ""}[len(words)-3:]...)
	ttl, err := strconv.Atoi(words[2])
	if err != nil {
		panic(err)
	}
	s := api.Set{Name: named(words[0]), Type: kindOf(words[1]), Class: api.IN, TTL: ttl}
	for _, word := range fields(words[3], '+') {
		s.Data = append(s.Data, dataOf(s.Type, word))
	}
	for _, word := range fields(words[4], '+') {
		s.Sigs = append(s.Sigs, sigOf(s.Type, word))
	}
	return s
}

// ordinary is the word of the data of a set that says nothing of them.
func ordinary(kind int) string {
	switch kind {
	case api.TypeA:
		return "1"
	case api.TypeSOA:
		return "5"
	case api.TypeNS, api.TypeCNAME:
		return "n."
	}
	return "bad"
}

func fields(text string, apart rune) []string {
	return strings.FieldsFunc(text, func(r rune) bool { return r == apart })
}

func setsOf(text string) []api.Set {
	var list []api.Set
	for _, word := range fields(text, ',') {
		list = append(list, setOf(word))
	}
	return list
}

// setText is a set in words, as setOf reads it.
func setText(s api.Set) string {
	words := []string{must(name.Text(s.Name)), must(data.TypeText(s.Type)), strconv.Itoa(s.TTL)}
	var list, signs []string
	for _, d := range s.Data {
		list = append(list, dataWord(s.Type, d))
	}
	for _, d := range s.Sigs {
		signs = append(signs, must(data.Sig(d)).Sign)
	}
	words = append(words, strings.Join(list, "+"))
	if len(signs) > 0 {
		words = append(words, strings.Join(signs, "+"))
	}
	if s.Class != api.IN {
		words = append(words, "class "+strconv.Itoa(s.Class))
	}
	return strings.Join(words, "/")
}

func setTexts(list []api.Set) string {
	var words []string
	for _, s := range list {
		words = append(words, setText(s))
	}
	return strings.Join(words, ",")
}

// answerText is an answer in words: `rcode=0 sec=0 until=10 answer=a./A/10/1 authority=`; `-` for nothing.
func answerText(a msgcache.Answer, found bool) string {
	if !found {
		if a.Rcode != 0 || a.Security != 0 || a.Until != 0 || len(a.Answer) != 0 || len(a.Authority) != 0 {
			return "not nothing"
		}
		return "-"
	}
	return "rcode=" + strconv.Itoa(a.Rcode) + " sec=" + strconv.Itoa(a.Security) + " until=" + strconv.Itoa(a.Until) + " answer=" + setTexts(a.Answer) + " authority=" + setTexts(a.Authority)
}

// entryText is what is known of a set, in words: `a./A/10/1 v=1 until=10`; `-` for nothing.
func entryText(x rrcache.Entry, found bool) string {
	if !found {
		return "-"
	}
	return setText(x.Set) + " v=" + strconv.Itoa(x.Version) + " until=" + strconv.Itoa(x.Until)
}

// putText tells what a Put answers: `true`, `false` or `ErrArg`.
func putText(ok bool, e api.Errno) string {
	switch {
	case e == api.ErrArg && !ok:
		return "ErrArg"
	case e != api.OK:
		return "not so: " + e.Error()
	}
	return strconv.FormatBool(ok)
}

// both are a cache of answers and that of their sets.
type both struct {
	sets    *rrcache.Cache
	answers *msgcache.Cache
}

// made is a cache of at most so many answers, with one of at most so many sets.
func made(t *testing.T, most, sets int) both {
	t.Helper()
	s, e := rrcache.New(sets)
	if e != api.OK {
		t.Fatalf("rrcache.New(%d): %v", sets, e)
	}
	c, e := msgcache.New(most, s)
	if c == nil || e != api.OK {
		t.Fatalf("New(%d): %v, %v", most, c, e)
	}
	return both{s, c}
}

// line is a line of a script taken apart: `put a. answer=a./A until=7`.
type line struct {
	what, name string
	values     map[string]string
}

func lineOf(text string) line {
	words := append(strings.Fields(text), "")
	x := line{words[0], "", map[string]string{}}
	for _, word := range words[1:] {
		if k, v, pair := strings.Cut(word, "="); pair {
			x.values[k] = v
		} else {
			x.name += word
		}
	}
	return x
}

// word is a value, or what it is where the line says nothing of it.
func (x line) word(k, other string) string {
	if v, has := x.values[k]; has {
		return v
	}
	return other
}

func (x line) number(k string, other int) int {
	n, err := strconv.Atoi(x.word(k, strconv.Itoa(other)))
	if err != nil {
		panic(err)
	}
	return n
}

func (x line) ask() api.Question {
	return api.Question{Name: named(x.name), Type: kindOf(x.word("type", "A")), Class: x.number("class", api.IN)}
}

// answer is what the line puts: the set that is asked for, if it says nothing else.
func (x line) answer() msgcache.Answer {
	return msgcache.Answer{
		Rcode: x.number("rcode", 0), Security: x.number("sec", 0), Until: x.number("until", 0),
		Answer: setsOf(x.word("answer", x.name+"/"+x.word("type", "A"))), Authority: setsOf(x.word("authority", "")),
	}
}

// do does what one line says, and tells what is answered. A `set` is put into the sets, and told by `look`, or by `there` without being used.
func (b both) do(text string) string {
	x := lineOf(text)
	now := x.number("at", 0)
	switch x.what {
	case "put":
		return putText(b.answers.Put(x.ask(), x.answer(), now))
	case "get":
		return answerText(b.answers.Get(x.ask(), now))
	case "len":
		return strconv.Itoa(b.answers.Len())
	case "set":
		return putText(b.sets.Put(setOf(x.name), x.number("rank", api.RankAnswer), 0, now))
	case "look":
		s := setOf(x.name)
		return entryText(b.sets.Get(s.Name, s.Type, now))
	case "there":
		s := setOf(x.name)
		return strconv.FormatBool(b.sets.Mark(s.Name, s.Type, x.number("v", 1), 0))
	case "sweep":
		return strconv.Itoa(b.sets.Sweep(now))
	case "sets":
		return strconv.Itoa(b.sets.Len())
	}
	return "no such line"
}

// doAll does lines that are told apart by `;`, each with words that it must answer behind `: ` (none: whatever it answers).
func (b both) doAll(t *testing.T, script string) {
	t.Helper()
	for text := range strings.SplitSeq(script, ";") {
		what, want, _ := strings.Cut(text, ": ")
		got := b.do(what)
		if got == "no such line" || got == "not nothing" {
			t.Errorf("%s: %s", what, got)
		}
		for word := range strings.FieldsSeq(want) {
			if !slices.Contains(strings.Fields(got), word) {
				t.Errorf("%s\n%s: %q, want %s", script, strings.TrimSpace(what), got, word)
			}
		}
	}
}

// scripts does each script with caches of its own, of at most so many answers and sets.
func scripts(t *testing.T, most, sets int, list ...string) {
	t.Helper()
	for _, script := range list {
		made(t, most, sets).doAll(t, script)
	}
}

// The words of these tests say what they are said to.
func TestMade(t *testing.T) {
	for _, text := range []string{"a./A/10/1", "A.b./NS/0/n.a.+m./x+y", "./SOA/2147483647/7", "./SOA/5/4294967295/x"} {
		if got := setText(setOf(text)); got != text {
			t.Errorf("%s: %s", text, got)
		}
	}
	if got := setTexts(setsOf("a.,b./A/5,c./SOA/6/0,d./NS")); got != "a./A/10/1,b./A/5/1,c./SOA/6/0,d./NS/10/n." {
		t.Error(got)
	}
	if s := setOf("a./SOA/10/bad+7"); len(s.Data) != 2 || data.Right(api.TypeSOA, s.Data[0]) || !data.Right(api.TypeSOA, s.Data[1]) {
		t.Error(s)
	}
	for _, n := range wrongNames() {
		if name.Right(n) {
			t.Errorf("%q", n)
		}
	}
}
