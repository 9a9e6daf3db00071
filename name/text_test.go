package name_test

import (
	"fmt"
	"strings"
	"testing"

	"guidepost/api"
	"guidepost/name"
)

// P1.2
func TestParse(t *testing.T) {
	x63 := strings.Repeat("x", 63)
	for _, c := range []struct{ text, want string }{
		{".", root},
		{"www.Example.", wire("www", "Example")},
		{"www.Example", wire("www", "Example")},
		{"a", wire("a")},
		{`a\.b.c`, wire("a.b", "c")},
		{`\.`, wire(".")},
		{`\..`, wire(".")},
		{`a\.`, wire("a.")},
		{`\\`, wire(`\`)},
		{`\\.`, wire(`\`)},
		{`\065.`, wire("A")},
		{`\000`, wire("\x00")},
		{`\046.`, wire(".")},
		{`\092.`, wire(`\`)},
		{`\255`, wire("\xff")},
		{`\0651`, wire("A1")},
		{`\a\ \*`, wire("a *")},
		{"\\\x00\\\xff\\\n", wire("\x00\xff\n")},
		{"\\\x7f", wire("\x7f")},
		{`*.!~"`, wire("*", `!~"`)},
		{x63, wire(x63)},
		{x63 + ".", wire(x63)},
		{strings.Repeat(`\120`, 63), wire(x63)},
		{strings.Repeat("a.", 127), long(255)},
		{strings.Repeat("a.", 126) + "a", long(255)},
		{strings.Repeat(x63+".", 3) + x63[:61], wire(x63, x63, x63, x63[:61])},
	} {
		if got, e := name.Parse(c.text); got != c.want || e != api.OK {
			t.Errorf("Parse(%q) = %q, %v", c.text, got, e)
		}
	}
}

// P1.2
func TestParsePlainBytes(t *testing.T) {
	for b := range 256 {
		text := "x" + string([]byte{byte(b)}) + "y"
		want, e := wire(text), api.OK
		switch {
		case b == '.':
			want = wire("x", "y")
		case b == '\\':
			want = wire("xy")
		case b < 33 || b > 126:
			want, e = "", api.ErrText
		}
		if got, ge := name.Parse(text); got != want || ge != e {
			t.Errorf("Parse(%q) = %q, %v", text, got, ge)
		}
	}
}

// P1.2: a backslash and any byte but a digit; and each number of three digits.
func TestParseEscapes(t *testing.T) {
	for b := range 256 {
		text := `\` + string([]byte{byte(b)})
		want, e := wire(text[1:]), api.OK
		if b >= '0' && b <= '9' {
			want, e = "", api.ErrText
		}
		if got, ge := name.Parse(text); got != want || ge != e {
			t.Errorf("Parse(%q) = %q, %v", text, got, ge)
		}
	}
	for number := range 1000 {
		text := fmt.Sprintf(`a\%03db.`, number)
		want, e := "", api.ErrText
		if number < 256 {
			want, e = wire("a"+string([]byte{byte(number)})+"b"), api.OK
		}
		if got, ge := name.Parse(text); got != want || ge != e {
			t.Errorf("Parse(%q) = %q, %v", text, got, ge)
		}
	}
}

// P1.2
func TestParseErrors(t *testing.T) {
	x63, x64 := strings.Repeat("x", 63), strings.Repeat("x", 64)
	long := strings.Repeat("ab.", 85)
	for _, c := range []struct {
		text string
		e    api.Errno
	}{
		{"", api.ErrText}, {"..", api.ErrText}, {".a", api.ErrText}, {"a..b", api.ErrText}, {"a..", api.ErrText}, {"a.b..", api.ErrText},
		{`\`, api.ErrText}, {`a.\`, api.ErrText}, {`a\`, api.ErrText}, {`\2`, api.ErrText}, {`\25`, api.ErrText}, {`\25.`, api.ErrText}, {`\2a5`, api.ErrText},
		{`\25a`, api.ErrText}, {`\256.`, api.ErrText}, {`\300`, api.ErrText}, {`\999`, api.ErrText}, {`\1 2`, api.ErrText}, {`\00:`, api.ErrText}, {`\0:0`, api.ErrText}, {`\0/0`, api.ErrText},
		{"a b.", api.ErrText}, {" ", api.ErrText}, {"a. ", api.ErrText}, {"a.\n", api.ErrText}, {"a\x7f", api.ErrText}, {"\x80", api.ErrText}, {"a.\xff", api.ErrText}, {"\x00", api.ErrText},
		{x64, api.ErrName}, {x64 + ".", api.ErrName}, {"a." + x64 + ".b", api.ErrName}, {strings.Repeat(`\120`, 64), api.ErrName}, {strings.Repeat(`\.`, 64), api.ErrName},
		{strings.Repeat("x", 256), api.ErrName}, {strings.Repeat("x", 100000), api.ErrName},
		{long, api.ErrLong}, {strings.Repeat("a.", 128), api.ErrLong}, {strings.Repeat("a.", 127) + "a", api.ErrLong}, {strings.Repeat("a.", 100000), api.ErrLong},
		{strings.Repeat(x63+".", 3) + x63[:62], api.ErrLong}, {strings.Repeat(x63+".", 4), api.ErrLong},
		{x64 + "..", api.ErrText}, {x64 + ". ", api.ErrText}, {long + ".", api.ErrText}, {long + `\`, api.ErrText}, {long + x64 + `.\256`, api.ErrText}, {x64 + " ", api.ErrText},
		{long + x64, api.ErrName}, {x64 + "." + long, api.ErrName}, {strings.Repeat(x64+".", 4), api.ErrName},
	} {
		if got, e := name.Parse(c.text); got != "" || e != c.e {
			t.Errorf("Parse(%.300q) = %q, %v, not %v", c.text, got, e, c.e)
		}
	}
}

// P1.2
func TestText(t *testing.T) {
	for _, c := range []struct{ n, want string }{
		{root, "."},
		{wire("www", "Example"), "www.Example."},
		{wire("a.b", "c"), `a\.b.c.`},
		{wire(`\`), `\\.`},
		{wire("\x00", "\xff"), `\000.\255.`},
		{wire("\x01\x09\x0a\x20\x21"), `\001\009\010\032!.`},
		{wire("~\x7f\x80\x63\xc8"), `~\127\128c\200.`},
		{wire(`"$@;()*`), `"$@;()*.`},
		{long(255), strings.Repeat("a.", 127)},
	} {
		if got, e := name.Text(c.n); got != c.want || e != api.OK {
			t.Errorf("Text(%q) = %q, %v", c.n, got, e)
		}
	}
	for b := range 256 {
		one := string([]byte{byte(b)})
		want := one
		switch {
		case b == '.' || b == '\\':
			want = `\` + one
		case b < 33 || b > 126:
			want = fmt.Sprintf(`\%03d`, b)
		}
		if got, e := name.Text(wire("x", one)); got != "x."+want+"." || e != api.OK {
			t.Errorf("Text of the byte %d: %q, %v", b, got, e)
		}
	}
	for _, n := range strays() {
		if got, e := name.Text(n); got != "" || e != api.ErrName {
			t.Errorf("Text(%q) = %q, %v", n, got, e)
		}
	}
}
