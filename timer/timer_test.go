package timer_test

import (
	"math"
	"slices"
	"testing"

	"guidepost/api"
	"guidepost/timer"
)

// P12.1: what is done, and what is answered.
func TestScripts(t *testing.T) {
	for _, c := range []struct{ what, script string }{
		{"the chapter's example", "set 1 50: 0; set 2 30: 0; set 1 20: 0; next: 1 20; due 40: 1 2; len: 0"},
		{"nothing", "len: 0; next: -; due 0: ; due 100: ; due -1: ; cancel 0: false; cancel 1: false; next: -; len: 0"},
		{"a time below 0, of an id that is not there", "set 5 -1: 1; len: 0; next: -; cancel 5: false; due 100: ; set 0 -9223372036854775808: 1; len: 0"},
		{"a time below 0, of an id that is there", "set 5 10: 0; set 5 -1: 1; len: 1; next: 5 10; set 5 -9223372036854775808: 1; due 9: ; due 10: 5; len: 0"},
		{"a time below 0, among others", "set 1 3: 0; set 2 2: 0; set 3 1: 0; set 1 -1: 1; set 3 -7: 1; set 4 -1: 1; len: 3; due 100: 3 2 1"},
		{"at 0", "set 1 0: 0; len: 1; next: 1 0; due -1: ; len: 1; due 0: 1; len: 0; next: -"},
		{"the greatest times", "set 1 9223372036854775807: 0; set 2 9223372036854775806: 0; next: 2 9223372036854775806; due 9223372036854775805: ; due 9223372036854775806: 2; len: 1; next: 1 9223372036854775807; due 9223372036854775807: 1; len: 0"},
		{"set again to a time before", "set 1 10; set 2 20; set 3 30; set 3 5: 0; next: 3 5; len: 3; due 30: 3 1 2"},
		{"set again to a time behind", "set 1 10; set 2 20; set 3 30; set 1 25: 0; next: 2 20; len: 3; due 10: ; due 24: 2; due 25: 1; due 30: 3"},
		{"set again to its own time", "set 1 10; set 2 10; set 1 10: 0; set 2 10: 0; next: 1 10; len: 2; due 9: ; due 10: 1 2; due 10: ; len: 0"},
		{"the only one set again", "set 1 10; set 1 20: 0; len: 1; next: 1 20; due 10: ; set 1 15: 0; next: 1 15; due 15: 1; due 20: "},
		{"ids below 0, and the greatest and least ones", "set -1 5; set 0 5; set 1 5; set -9223372036854775808 5; set 9223372036854775807 5; len: 5; next: -9223372036854775808 5; due 5: -9223372036854775808 -1 0 1 9223372036854775807"},
		{"several at one time, by their ids", "set 3 7; set 9 7; set 1 7; set 5 7; set 2 6; set 0 8; next: 2 6; due 7: 2 1 3 5 9; len: 1; next: 0 8"},
		{"an id comes to the time of others", "set 4 10; set 6 10; set 5 20; set 5 10: 0; due 10: 4 5 6"},
		{"cancelled, cancelled again, set again", "set 1 10; set 2 20; cancel 1: true; cancel 1: false; len: 1; next: 2 20; due 10: ; set 1 15: 0; len: 2; due 20: 1 2"},
		{"cancel of an id that is not there", "set 1 10; set 2 20; cancel 3: false; cancel -1: false; cancel 10: false; len: 2; due 20: 1 2"},
		{"cancel of what came due", "set 1 10; set 2 20; due 10: 1; cancel 1: false; len: 1; cancel 2: true; len: 0"},
		{"cancel of the first", "set 1 10; set 2 20; set 3 30; cancel 1: true; next: 2 20; len: 2; due 30: 2 3"},
		{"cancel of the last", "set 1 10; set 2 20; set 3 30; cancel 3: true; next: 1 10; len: 2; due 30: 1 2"},
		{"cancel of one between", "set 1 10; set 2 20; set 3 30; cancel 2: true; next: 1 10; len: 2; due 30: 1 3"},
		{"cancel of the only one", "set 1 10; cancel 1: true; len: 0; next: -; due 10: ; cancel 1: false; set 1 5: 0; next: 1 5"},
		{"cancel of one, ahead of which another must come", "set 0 0; set 1 100; set 2 1; set 3 101; set 4 102; set 5 2; set 6 3; cancel 3: true; len: 6; due 200: 0 2 5 6 1 4"},
		{"Next takes nothing away", "set 1 10; set 2 20; next: 1 10; next: 1 10; len: 2; next: 1 10; due 20: 1 2; next: -; next: -"},
		{"due before all, at just their time, behind all", "set 1 10; set 2 20; set 3 20; due 9: ; len: 3; due 10: 1; len: 2; due 19: ; len: 2; due 1000: 2 3; len: 0; next: -"},
		{"due twice at one time", "set 1 10; set 2 20; due 10: 1; due 10: ; len: 1; set 3 10: 0; due 10: 3; due 10: ; len: 1"},
		{"due at a time before that of the last call", "set 1 10; set 2 20; due 15: 1; due 5: ; len: 1; set 3 4: 0; due 3: ; due 4: 3; due 20: 2"},
		{"due at times below 0", "set 1 0; due -1: ; due -9223372036854775808: ; len: 1; next: 1 0"},
		{"set to a time that is over", "due 100: ; set 1 50: 0; len: 1; next: 1 50; due 100: 1"},
	} {
		t.Run(c.what, func(t *testing.T) { doAll(t, timer.New(), c.script) })
	}
}

// P12.1: wherever an id stands among others, it can be cancelled or set again, and the others keep their order.
func TestEachPlace(t *testing.T) {
	const count = 20
	for gone := range count {
		x, y := timer.New(), timer.New()
		var want []int
		for id := range count {
			at := id * 7 % count // each time once
			x.Set(id, at)
			y.Set(id, at)
		}
		for at := range count {
			if id := at * 3 % count; id != gone { // 3 undoes 7, modulo 20
				want = append(want, id)
			}
		}
		if !x.Cancel(gone) || x.Len() != count-1 || !slices.Equal(x.Due(count), want) {
			t.Error("Cancel", gone)
		}
		if y.Set(gone, count) != api.OK || y.Len() != count || !slices.Equal(y.Due(count), append(want, gone)) {
			t.Error("Set", gone)
		}
	}
}

// P12.4: what comes of Due, with times that rise, comes in the order of its times, and all of it comes; of very many too.
func TestDueInOrder(t *testing.T) {
	const count = 100000
	x := timer.New()
	for id := range count {
		x.Set(id, id*77773%count)
	}
	for id := range count {
		if id%5 == 0 {
			x.Cancel(id)
		}
	}
	last, came := -1, 0
	for now := 0; now < count; now += 999 {
		for _, id := range x.Due(now) {
			at := id * 77773 % count
			if at <= last || at > now || id%5 == 0 {
				t.Fatal(id, at, last, now)
			}
			last = at
			came++
		}
	}
	came += len(x.Due(math.MaxInt))
	if came != count/5*4 || x.Len() != 0 {
		t.Error(came, x.Len())
	}
}

// P3: what Due answers is new memory, spare room too.
func TestDueIsNew(t *testing.T) {
	x := timer.New()
	doAll(t, x, "set 1 10; set 2 10; set 3 10; set 4 20; set 5 20")
	first := x.Due(10)
	for i := range first[:cap(first)] {
		first[:cap(first)][i] = 99
	}
	second := x.Due(20)
	if !slices.Equal(second, []int{4, 5}) {
		t.Error(second)
	}
	doAll(t, x, "set 6 30; set 7 30; due 30: 6 7")
	if !slices.Equal(second, []int{4, 5}) || !slices.Equal(first, []int{99, 99, 99}) {
		t.Error("what was answered has changed:", first, second)
	}
}

// P4: a timer hangs on nothing that is done to another one.
func TestTimersApart(t *testing.T) {
	x, y := timer.New(), timer.New()
	doAll(t, x, "set 1 10; set 2 20")
	doAll(t, y, "len: 0; next: -; cancel 1: false; set 1 30: 0; due 20: ")
	doAll(t, x, "len: 2; due 10: 1")
	doAll(t, y, "len: 1; next: 1 30")
}
