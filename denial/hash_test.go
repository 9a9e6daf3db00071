package denial_test

import (
	"math"
	"math/rand"
	"slices"
	"strings"
	"testing"

	"guidepost/api"
	"guidepost/denial"
	"guidepost/digest"
)

// P9.1: the hashes that RFC 5155 (appendix A) tells, in small and great letters.
func TestHashExamples(t *testing.T) {
	for n, want := range map[string]string{
		"example":       "0p9mhaveqvm6t7vbl5lop2u3t2rp3tom",
		"a.example":     "35mthgpgcu1qg68fab165klnsnk3dpvl",
		"ai.example":    "gjeqe526plbf1g8mklp59enfd789njgi",
		"ns1.example":   "2t7b4g4vsa5smi47k61mv5bv1a22bojr",
		"ns2.example":   "q04jkcevqvmu85r014c7dkba38o0ji5r",
		"w.example":     "k8udemvp1j2f7eg6jebps17vp3n8i58h",
		"*.w.example":   "r53bq7cc2uvmubfu5ocmm6pers9tk9en",
		"x.w.example":   "b4um86eghhds6nea196smvmlo4ors995",
		"y.w.example":   "ji6neoaepv8b5o6k4ev33abha8ht9fgc",
		"x.y.w.example": "2vptu5timamqttgl4luu9kg21e0aor3s",
		"xx.example":    "t644ebqk9bibcna874givr6joj62mlhv",
		"X.Y.w.EXAMple": "2vptu5timamqttgl4luu9kg21e0aor3s",
		"XX.EXAMPLE":    "t644ebqk9bibcna874givr6joj62mlhv",
		"NS1.example":   "2t7b4g4vsa5smi47k61mv5bv1a22bojr",
		"*.W.eXaMpLe":   "r53bq7cc2uvmubfu5ocmm6pers9tk9en",
		"AI.EXAMPLE":    "gjeqe526plbf1g8mklp59enfd789njgi",
		"w.EXAMPLE":     "k8udemvp1j2f7eg6jebps17vp3n8i58h",
		"EXAMPLE":       "0p9mhaveqvm6t7vbl5lop2u3t2rp3tom",
		"Ns2.ExAmPlE":   "q04jkcevqvmu85r014c7dkba38o0ji5r",
		"2T7B4G4VSA5SMI47K61MV5BV1A22BOJR.example": "kohar7mbb8dc2ce8a9qvl8hon4k53uhi",
	} {
		got, e := denial.Hash(dot(n), "\xaa\xbb\xcc\xdd", 12)
		if digest.Base32(got) != want || e != api.OK {
			t.Errorf("%s: %s, %d", n, digest.Base32(got), e)
		}
	}
}

// P9.1: rounds and salts, to the greatest that may be, as the library has them.
func TestHash(t *testing.T) {
	long, above := longest()
	names := []string{root, x, dot("a.b.X"), dot("@[`{.x"), "\x03\xc0\xdd\x00" + x, "\x01\x00" + x, long, above}
	for _, n := range names {
		for _, salt := range []string{"", "\x00", "A", "\xaa\xbb\xcc\xdd", strings.Repeat("S", 44), strings.Repeat("\xff", 254), strings.Repeat("\x00", 255)} {
			for _, rounds := range []int{0, 1, 2, 12, 149, 150, 151} {
				if got, e := denial.Hash(n, salt, rounds); got != sum(n, salt, rounds) || e != api.OK {
					t.Errorf("%q, a salt of %d, %d rounds: %x, %d", n, len(salt), rounds, got, e)
				}
			}
		}
	}
	for _, rounds := range []int{65534, 65535} {
		if got, e := denial.Hash(x, "s", rounds); got != sum(x, "s", rounds) || e != api.OK {
			t.Errorf("%d rounds: %x, %d", rounds, got, e)
		}
	}
}

// P9.1: what is no name, then rounds, then salts that may not be, in this order.
func TestHashErrors(t *testing.T) {
	wrongRounds := []int{-1, 65536, 1 << 20, math.MinInt, math.MaxInt, -65536, 1 << 32}
	wrongSalts := []string{strings.Repeat("s", 256), strings.Repeat("\x00", 257), strings.Repeat("s", 100000)}
	hash := func(n, salt string, rounds int, want api.Errno) {
		t.Helper()
		if got, e := denial.Hash(n, salt, rounds); got != "" || e != want {
			t.Errorf("%q, a salt of %d, %d rounds: %q, %d, want %d", n, len(salt), rounds, got, e, want)
		}
	}
	for _, rounds := range append(wrongRounds, 0, 150, 65535) {
		for _, salt := range append(wrongSalts, "", "s") {
			for _, n := range wrongNames() {
				hash(n, salt, rounds, api.ErrName)
			}
			if slices.Contains(wrongRounds, rounds) {
				hash(x, salt, rounds, api.ErrArg)
			} else if len(salt) > 255 {
				hash(x, salt, rounds, api.ErrLong)
			}
		}
	}
}

// P9.2: a before b, behind it, and the same.
func TestBetween(t *testing.T) {
	// In their order.
	list := []string{"", "a", "b.a", "c.b.a", "d.a", "b", "\x01.b", "*.b", "z.b", "bb", "c"}
	for i, a := range list {
		for j, n := range list {
			for k, b := range list {
				want := i < j && j < k
				if k < i {
					want = j > i || j < k
				} else if k == i {
					want = j != i
				}
				for _, letters := range []func(string) string{dot, func(s string) string { return dot(strings.ToUpper(s)) }} {
					if got := denial.Between(dot(a), letters(n), dot(b)); got != want {
						t.Errorf("%q, %q, %q: %v", a, n, b, got)
					}
					if got := denial.Between(letters(a), dot(n), letters(b)); got != want {
						t.Errorf("%q, %q, %q in other letters: %v", a, n, b, got)
					}
				}
			}
		}
	}
}

// P9.2: nothing is between what is no name, nor what is none between names.
func TestBetweenNoName(t *testing.T) {
	names := []string{root, x, dot("a.x"), dot("b.x")}
	for _, wrong := range wrongNames() {
		for _, a := range append(names, wrong) {
			for _, b := range append(names, wrong) {
				if denial.Between(wrong, a, b) || denial.Between(a, wrong, b) || denial.Between(a, b, wrong) {
					t.Errorf("%q with %q and %q", wrong, a, b)
				}
			}
		}
	}
}

// P9.2: of any names, it is as the labels from the right are in order.
func TestBetweenDrawn(t *testing.T) {
	r := rand.New(rand.NewSource(92))
	for range 20000 {
		a, n, b := drawnName(r), drawnName(r), drawnName(r)
		if got := denial.Between(a, n, b); got != ring(path(a), path(n), path(b), slices.Compare[[]string]) {
			t.Fatalf("%q, %q, %q: %v", a, n, b, got)
		}
	}
}
