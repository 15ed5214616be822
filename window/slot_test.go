package window_test

import (
	"math/rand"
	"testing"

	"nacelle/api"
	"nacelle/window"
)

// P12.1

func TestValid(t *testing.T) {
	for _, c := range []struct {
		s    api.Slot
		want bool
	}{
		{slot(0, 1, 1), true},
		{slot(0, 0, 0), false},
		{slot(0, 0, 1), false},
		{slot(0, -1, 1), false},
		{slot(0, 1, 0), false},
		{slot(0, 1, 2), false},
		{slot(1, 1, 1), false},
		{slot(-1, 1, 1), false},
		{slot(0, 4, 4), true},
		{slot(1, 4, 4), false},
		{slot(1, 4, 3), true},
		{slot(3, 4, 1), true},
		{slot(4, 4, 1), false},
		{slot(4, 4, 0), false},
		{slot(0, 4, -1), false},
		{slot(5, 4, -1), false},
		{slot(0, 2000, 2000), true},
		{slot(1999, 2000, 1), true},
		{slot(2000, 2000, 1), false},
		{slot(0, 2001, 1), false},
		{slot(-1, 2000, 2001), false},
		{slot(1<<63-1, 2000, 1), false},
		{slot(-1<<63, 2000, 1), false},
		{slot(0, 2000, -1<<63), false},
		{slot(0, 1<<63-1, 1<<63-1), false},
	} {
		if got := window.Valid(c.s); got != c.want {
			t.Errorf("%v: %v", c.s, got)
		}
	}
}

// TestAllValid has all slots of numbers near 0, near the limit, and at which computations go wrong.
func TestAllValid(t *testing.T) {
	numbers := append([]int{4, 5, 6, 1998}, extremes...)
	valid := 0
	for l := range lists(numbers, 3) {
		s := slot(l[0], l[1], l[2])
		if got := window.Valid(s); got != isValid(s) {
			t.Errorf("%v: %v", s, got)
		}
		if isValid(s) {
			valid++
		}
	}
	if valid < 100 {
		t.Error("only", valid, "slots are valid")
	}
}

func TestPairs(t *testing.T) {
	for _, c := range []struct {
		a, b api.Slot
		at   int
		met  bool
	}{
		{slot(0, 4, 1), slot(1, 6, 1), 0, false},
		{slot(0, 4, 2), slot(1, 6, 1), 1, true},
		{slot(0, 4, 1), slot(2, 6, 1), 8, true},
		{slot(0, 1, 1), slot(0, 1, 1), 0, true},
		{slot(0, 2, 1), slot(1, 2, 1), 0, false},
		{slot(0, 2, 1), slot(0, 1, 1), 0, true},
		{slot(1, 2, 1), slot(0, 1, 1), 1, true},
		{slot(3, 10, 4), slot(7, 10, 3), 0, false},
		{slot(3, 10, 4), slot(6, 10, 3), 6, true},
		{slot(3, 10, 4), slot(0, 10, 3), 0, false},
		{slot(3, 10, 4), slot(0, 10, 4), 3, true},
		{slot(3, 10, 4), slot(0, 10, 10), 3, true},
		{slot(0, 6, 3), slot(2, 9, 1), 2, true},
		{slot(0, 6, 2), slot(4, 9, 1), 13, true},
		{slot(0, 6, 2), slot(2, 9, 1), 0, false},
		{slot(5, 6, 1), slot(0, 3, 2), 0, false},
		{slot(5, 6, 1), slot(0, 3, 3), 5, true},
		{slot(0, 6, 1), slot(7, 10, 2), 18, true},
		{slot(1, 6, 1), slot(7, 10, 1), 7, true},
		{slot(998, 999, 1), slot(0, 1000, 1), 998000, true},
		{slot(0, 1999, 1), slot(1999, 2000, 1), 1999, true},
		{slot(0, 1999, 1), slot(1, 2000, 1), 1999 * 1999, true},
		{slot(0, 1999, 1), slot(1, 2000, 2), 1998 * 1999, true},
		{slot(1998, 1999, 1), slot(1999, 2000, 1), 1999*2000 - 1, true},
		{slot(0, 2000, 1999), slot(1999, 2000, 1), 0, false},
		{slot(0, 2000, 1000), slot(1000, 2000, 1000), 0, false},
		{slot(0, 2000, 1001), slot(1000, 2000, 1000), 1000, true},
		{slot(0, 4, 1), slot(0, 4, 0), 0, false},
		{slot(0, 4, 1), slot(-1, 4, 3), 0, false},
		{slot(0, 4, 1), slot(2, 4, 3), 0, false},
		{slot(0, 2001, 1), slot(0, 4, 1), 0, false},
		{slot(0, 0, 0), slot(0, 0, 0), 0, false},
	} {
		checkPair(t, c.a, c.b)
		checkPair(t, c.b, c.a)
		at, ok := window.Meet(c.a, c.b)
		if at != c.at || ok != c.met {
			t.Errorf("%v %v: %d %v", c.a, c.b, at, ok)
		}
	}
}

// TestSmallPairs has all pairs of slots with periods of at most 9, and of some slots that are not valid.
func TestSmallPairs(t *testing.T) {
	var l []api.Slot
	for period := range 10 {
		for length := range period + 2 {
			for offset := -1; offset <= period-length+1; offset++ {
				l = append(l, slot(offset, period, length))
			}
		}
	}
	met, valid := 0, 0
	for two := range lists(l, 2) {
		checkPair(t, two[0], two[1])
		if isValid(two[0]) && isValid(two[1]) {
			valid++
		}
		if _, ok := window.Meet(two[0], two[1]); ok {
			met++
		}
	}
	if met < 10000 || valid-met < 1000 {
		t.Error("of", valid, "pairs", met, "meet")
	}
}

// TestPairsOfFrames has pairs whose periods have a common divisor, as those of a module, and is looked at by the first consequence and at all times.
func TestPairsOfFrames(t *testing.T) {
	r := rand.New(rand.NewSource(1201))
	for range 20000 {
		a, b := someSlot(r, 30), someSlot(r, 30)
		checkPair(t, a, b)
		k := 1 + r.Intn(60)
		a.Period, a.Offset, a.Length = a.Period*k, a.Offset*k+r.Intn(k), max(1, (a.Length-1)*k)
		b.Period, b.Offset, b.Length = b.Period*k, b.Offset*k+r.Intn(k), max(1, (b.Length-1)*k)
		checkPair(t, a, b)
	}
}

// TestLargePairs has periods up to the limit: nothing is open before the meeting, which is not looked at tick by tick.
func TestLargePairs(t *testing.T) {
	r := rand.New(rand.NewSource(1202))
	for range 20000 {
		a, b := someSlot(r, api.MaxFrames), someSlot(r, api.MaxFrames)
		if r.Intn(2) == 0 {
			a.Length, b.Length = 1, 1
		}
		at, met := window.Meet(a, b)
		if met == areApart(a, b) || window.Disjoint(a, b) == met || !met && at != 0 {
			t.Fatalf("%v %v: %d %v", a, b, at, met)
		}
		if !met {
			continue
		}
		if !isOpen(a, at) || !isOpen(b, at) {
			t.Fatalf("%v %v: not both are open at %d", a, b, at)
		}
		for start := a.Offset; start < at; start += a.Period {
			for k := range min(a.Length, at-start) {
				if isOpen(b, start+k) {
					t.Fatalf("%v %v: both are open at %d, before %d", a, b, start+k, at)
				}
			}
		}
	}
}

// TestPairExtremes has a number of one slot at a time at its limits and beyond.
func TestPairExtremes(t *testing.T) {
	b := slot(3, 12, 2)
	for _, x := range extremes {
		for _, a := range []api.Slot{slot(x, 12, 2), slot(3, x, 2), slot(3, 12, x), slot(0, x, x), slot(x, x, 1), slot(x, x, x), slot(x, 2000, 1), slot(0, 2000, x)} {
			checkPair(t, a, b)
			checkPair(t, b, a)
			checkPair(t, a, a)
		}
	}
}
