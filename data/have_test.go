package data_test

import (
	"reflect"
	"strings"
	"testing"

	"guidepost/api"
	"guidepost/data"
)

const maxU32 = 1<<32 - 1

// had is what data of a type have.
type had struct {
	kind int
	x    any
	d    string
}

// take is X of a type.
func take(kind int, d string) (any, api.Errno) {
	switch kind {
	case api.TypeSOA:
		return untyped(data.Soa(d))
	case api.TypeRRSIG:
		return untyped(data.Sig(d))
	case api.TypeDNSKEY:
		return untyped(data.Key(d))
	case api.TypeDS:
		return untyped(data.Ds(d))
	case api.TypeNSEC:
		x, e := data.Nsec(d)
		x.Types = noneIsNil(x.Types)
		return x, e
	}
	x, e := data.Nsec3(d)
	x.Types = noneIsNil(x.Types)
	return x, e
}

func untyped[T any](x T, e api.Errno) (any, api.Errno) {
	return x, e
}

func noneIsNil(types []int) []int {
	if len(types) == 0 {
		return nil
	}
	return types
}

// put is OfX of x.
func put(x any) (string, api.Errno) {
	switch x := x.(type) {
	case api.Soa:
		return data.OfSoa(x)
	case api.Sig:
		return data.OfSig(x)
	case api.Key:
		return data.OfKey(x)
	case api.Ds:
		return data.OfDs(x)
	case api.Nsec:
		return data.OfNsec(x)
	}
	return data.OfNsec3(x.(api.Nsec3))
}

// withX are the types for which there are X and OfX.
func withX() []int {
	return []int{api.TypeSOA, api.TypeRRSIG, api.TypeDNSKEY, api.TypeDS, api.TypeNSEC, api.TypeNSEC3}
}

func hads() []had {
	long := longName()
	return []had{
		{api.TypeSOA, api.Soa{Primary: wire("a"), Mail: wire("b", "C"), Serial: 1, Refresh: 1 << 8, Retry: 1 << 16, Expire: 1 << 24, Minimum: maxU32}, wire("a") + wire("b", "C") + soaNumbers},
		{api.TypeSOA, api.Soa{Primary: root, Mail: root}, strings.Repeat(root, 22)},
		{api.TypeSOA, api.Soa{Primary: long, Mail: long, Serial: 1 << 31}, long + long + "\x80" + strings.Repeat(root, 19)},
		{api.TypeRRSIG, api.Sig{Covered: 1, Alg: 8, Labels: 2, TTL: 3600, End: maxU32 - 1, Begin: 0x01020304, Tag: 0xabcd, Signer: wire("X"), Sign: "s"}, "\x00\x01" + sigNumbers + wire("X") + "s"},
		{api.TypeRRSIG, api.Sig{Covered: 65535, Alg: 255, Labels: 255, TTL: maxU32, End: maxU32, Begin: maxU32, Tag: 65535, Signer: root, Sign: "\x00"}, strings.Repeat("\xff", 18) + root + root},
		{api.TypeRRSIG, api.Sig{Signer: root, Sign: wire("A")}, strings.Repeat(root, 19) + wire("A")},
		{api.TypeRRSIG, api.Sig{Signer: root, Sign: fill(1981)}, strings.Repeat(root, 19) + fill(1981)},
		{api.TypeDNSKEY, api.Key{Flags: 257, Protocol: 3, Alg: 13, Public: "\x0a\x0b"}, "\x01\x01\x03\x0d\x0a\x0b"},
		{api.TypeDNSKEY, api.Key{Flags: 65535, Protocol: 255, Alg: 255, Public: fill(1996)}, "\xff\xff\xff\xff" + fill(1996)},
		{api.TypeDS, api.Ds{Tag: 258, Alg: 8, Kind: 2, Digest: "\xff"}, "\x01\x02\x08\x02\xff"},
		{api.TypeDS, api.Ds{Tag: 65535, Alg: 255, Kind: 255, Digest: fill(1996)}, "\xff\xff\xff\xff" + fill(1996)},
		{api.TypeNSEC, api.Nsec{Next: wire("N")}, wire("N")},
		{api.TypeNSEC, api.Nsec{Next: root, Types: []int{1, 15}}, root + "\x00\x02\x40\x01"},
		{api.TypeNSEC, api.Nsec{Next: root, Types: []int{0, 7, 8, 255, 256, 511, 65535}}, root + "\x00\x20\x81\x80" + strings.Repeat(root, 29) + "\x01" + "\x01\x20\x80" + strings.Repeat(root, 30) + "\x01" + "\xff\x20" + strings.Repeat(root, 31) + "\x01"},
		{api.TypeNSEC3, api.Nsec3{Alg: 1, Rounds: 12, Next: "\xff", Types: []int{2}}, "\x01\x00\x00\x0c\x00\x01\xff\x00\x01\x20"},
		{api.TypeNSEC3, api.Nsec3{Alg: 255, Flags: 255, Rounds: 65535, Salt: fill(255), Next: fill(255)}, "\xff\xff\xff\xff\xff" + fill(255) + "\xff" + fill(255)},
		{api.TypeNSEC3, api.Nsec3{Flags: 1, Salt: "\x01", Next: "\x00"}, "\x00\x01\x00\x00\x01\x01\x01\x00"},
	}
}

// P2.4, P2.5
func TestHave(t *testing.T) {
	for _, h := range hads() {
		if x, e := take(h.kind, h.d); !reflect.DeepEqual(x, h.x) || e != api.OK {
			t.Errorf("%q has %+v, %v, not %+v", h.d, x, e, h.x)
		}
		if d, e := put(h.x); d != h.d || e != api.OK {
			t.Errorf("of %+v are %q, %v, not %q", h.x, d, e, h.d)
		}
	}
}

// P2.4: what is not right data of the type has nothing.
func TestHaveNothing(t *testing.T) {
	for _, kind := range withX() {
		list := []string{"", root, "abc", fill(2001), root + root + fill(1999), strings.Repeat(root, 2001)}
		for _, p := range wrong() {
			if p.kind == kind {
				list = append(list, p.d)
			}
		}
		for _, d := range list {
			if data.Right(kind, d) {
				continue
			}
			x, e := take(kind, d)
			if e != api.ErrData || !reflect.ValueOf(x).IsZero() {
				t.Errorf("%q of type %d has %+v, %v", d, kind, x, e)
			}
		}
	}
}

// numbersOf goes over the fields of x that are numbers, and puts others in their places, one at a time.
func numbersOf(x any, with func(field string) []int, each func(x any, field string, n int)) {
	for i := range reflect.TypeOf(x).NumField() {
		field := reflect.TypeOf(x).Field(i)
		if field.Type.Kind() != reflect.Int {
			continue
		}
		for _, n := range with(field.Name) {
			changed := reflect.New(reflect.TypeOf(x)).Elem()
			changed.Set(reflect.ValueOf(x))
			changed.Field(i).SetInt(int64(n))
			each(changed.Interface(), field.Name, n)
		}
	}
}

// bitsOf is how many bits a number has, by its field's name.
func bitsOf(x any, field string) int {
	switch field {
	case "Serial", "Refresh", "Retry", "Expire", "Minimum", "TTL", "End", "Begin":
		return 32
	case "Covered", "Tag", "Rounds":
		return 16
	case "Flags":
		if _, key := x.(api.Key); key {
			return 16
		}
	}
	return 8
}

// P2.4: numbers have the bits of their bytes, and are not below 0.
func TestNumbersOfHave(t *testing.T) {
	for _, h := range hads() {
		wrong := func(field string) []int {
			most := 1 << bitsOf(h.x, field)
			return []int{-1, most, most + 1, 1 << 40, -most, -1 << 63, 1<<63 - 1}
		}
		numbersOf(h.x, wrong, func(x any, field string, n int) {
			if d, e := put(x); d != "" || e != api.ErrData {
				t.Errorf("%T with %s %d: %q, %v", x, field, n, d, e)
			}
		})
		right := func(field string) []int {
			most := 1 << bitsOf(h.x, field)
			return []int{0, 1, most - 1, most / 2}
		}
		numbersOf(h.x, right, func(x any, field string, n int) {
			d, e := put(x)
			if again, te := take(h.kind, d); e != api.OK || te != api.OK || !reflect.DeepEqual(again, x) {
				t.Errorf("%T with %s %d: %q, %v, %v", x, field, n, d, e, te)
			}
		})
	}
}

// P2.4: names that are none, too few bytes and too many, types that do not rise or are none.
func TestHaveNone(t *testing.T) {
	sig := api.Sig{Covered: 1, Signer: wire("x"), Sign: "s"}
	var list []any
	for _, n := range []string{"", "a", "\x01a", "\x02a\x00", root + root, wire("a") + "b", wire("a") + wire("b"), wire(strings.Repeat("x", 64)), "\x01b" + longName(), "\xc0\x0c"} {
		bad := sig
		bad.Signer = n
		list = append(list, api.Soa{Primary: n, Mail: root}, api.Soa{Primary: root, Mail: n}, api.Soa{Primary: n, Mail: n}, api.Nsec{Next: n}, api.Nsec{Next: n, Types: []int{1}}, bad)
	}
	// These run into each other, so that data of right form come of them.
	list = append(list,
		api.Soa{Primary: wire("a") + wire("b"), Mail: ""}, api.Soa{Primary: "", Mail: wire("a") + wire("b")}, api.Soa{Primary: "\x01", Mail: "a\x00" + wire("b")},
		api.Soa{Primary: wire("a") + "\x01", Mail: "b\x00"}, api.Sig{Signer: wire("x") + "s"}, api.Sig{Signer: "", Sign: wire("x") + "s"}, api.Sig{Signer: "\x01x", Sign: "\x00s"},
		api.Sig{Signer: root + root, Sign: "s"}, api.Nsec{Next: root + "\x00\x01\x40"}, api.Nsec{Next: "\x03", Types: []int{1}},
	)
	for _, types := range [][]int{{2, 1}, {1, 1}, {1, 2, 2}, {256, 1}, {65535, 0}, {-1}, {-1, 1}, {65536}, {1, 65536}, {65537}, {1 << 40}, {0, -1}, {257, 1, 258}, {300, 299}} {
		list = append(list, api.Nsec{Next: root, Types: types}, api.Nsec3{Next: "n", Types: types})
	}
	list = append(list,
		api.Ds{}, api.Ds{Digest: fill(1997)}, api.Key{}, api.Key{Public: fill(1997)}, api.Sig{Signer: root}, api.Sig{Signer: root, Sign: fill(1982)},
		api.Nsec3{}, api.Nsec3{Salt: "s"}, api.Nsec3{Salt: fill(256), Next: "n"}, api.Nsec3{Next: fill(256)}, api.Nsec3{Salt: fill(512), Next: "n"}, api.Nsec3{Next: fill(257)},
		api.Nsec{Next: root, Types: rising(60 * 256)}, api.Nsec3{Next: "n", Types: rising(1 << 16)},
	)
	for _, x := range list {
		if d, e := put(x); d != "" || e != api.ErrData {
			t.Errorf("of %+v are %q, %v", x, d, e)
		}
	}
}

// rising are the first so many types.
func rising(count int) []int {
	types := make([]int, count)
	for i := range types {
		types[i] = i
	}
	return types
}

// P2.4: a list of types may be as long as data may.
func TestMostTypes(t *testing.T) {
	for count, want := range map[int]api.Errno{
		58 * 256: api.OK, 58*256 + 8*25: api.OK, 58*256 + 8*25 + 1: api.ErrData, 59 * 256: api.ErrData,
	} {
		d, e := data.OfNsec(api.Nsec{Next: root, Types: rising(count)})
		if e != want || (e == api.OK) != data.Right(api.TypeNSEC, d) {
			t.Errorf("%d types: %d bytes, %v", count, len(d), e)
		}
		if x, _ := data.Nsec(d); e == api.OK && !reflect.DeepEqual(x.Types, rising(count)) {
			t.Errorf("%d types are %d", count, len(x.Types))
		}
	}
}

// P3: what comes in is not written into, what goes out is new.
func TestTypesAreNew(t *testing.T) {
	types := append(make([]int, 0, 8), 1, 2, 15)
	spare := types[:8]
	spare[3] = 77
	d, _ := data.OfNsec(api.Nsec{Next: root, Types: types})
	first, _ := data.Nsec(d)
	first.Types[0] = 99
	again, _ := data.Nsec(d)
	if !reflect.DeepEqual(types, []int{1, 2, 15}) || spare[3] != 77 || !reflect.DeepEqual(again.Types, types) {
		t.Error(types, spare, first, again)
	}
}
