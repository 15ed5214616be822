package window_test

import (
	"math/rand"
	"testing"

	"nacelle/api"
	"nacelle/window"
)

// P12.3

// mixed has windows that overlap, begin before the frame, begin after it, and are not in order.
var mixed = []api.Window{win(2, 1, 2), win(0, 5, 1), win(1, 5, 3), win(3, 12, 1), win(4, -1, 2), win(5, 9, 0), win(6, 9, 1)}

func TestOwner(t *testing.T) {
	table, _ := window.Table(module(12, 4, 1, 6, 1), []int{0, 1})
	for _, c := range []struct {
		table    []api.Window
		frame, t int
		part     int
		ok       bool
	}{
		{table, 12, 19, 1, true},
		{table, 12, 0, 0, true},
		{table, 12, 1, 1, true},
		{table, 12, 2, 0, false},
		{table, 12, 4, 0, true},
		{table, 12, 12, 0, true},
		{table, 12, 13, 1, true},
		{table, 12, big30, 0, true},
		{table, 12, big30 + 1, 0, false},
		{table, 12, -1, 0, false},
		{table, 0, 1, 0, false},
		{table, -12, 1, 0, false},
		{table, 2000, 1, 1, true},
		{table, 2001, 1, 0, false},
		{table, 1, big30, 0, true},
		{table[1:], 1, 1, 0, false},
		{mixed, 10, 0, 4, true},
		{mixed, 10, 1, 2, true},
		{mixed, 10, 2, 2, true},
		{mixed, 10, 3, 0, false},
		{mixed, 10, 5, 0, true},
		{mixed, 10, 6, 1, true},
		{mixed, 10, 7, 1, true},
		{mixed, 10, 8, 0, false},
		{mixed, 10, 9, 6, true},
		{mixed, 13, 12, 3, true},
		{nil, 10, 5, 0, false},
		{[]api.Window{win(7, 3, -1)}, 10, 3, 0, false},
		{[]api.Window{win(7, 3, -1)}, 10, 2, 0, false},
		{[]api.Window{win(-8, 3, 1)}, 10, 3, -8, true},
		{[]api.Window{win(1<<62, 3, 1)}, 10, 3, 1 << 62, true},
		{[]api.Window{win(7, -big30, big30)}, 10, 0, 0, false},
		{[]api.Window{win(7, 1-big30, big30)}, 10, 0, 7, true},
		{[]api.Window{win(7, -big30-1, big30)}, 10, 0, 0, false},
		{[]api.Window{win(7, 0, big30)}, 10, 9, 7, true},
		{[]api.Window{win(7, 0, big30+1)}, 10, 9, 0, false},
		{[]api.Window{win(7, 0, big30+1), win(8, 0, 10)}, 10, 9, 8, true},
		{[]api.Window{win(7, -big30-1, big30+5), win(8, 0, 10)}, 10, 2, 8, true},
		{[]api.Window{win(7, -1<<63, -1<<63)}, 10, 0, 0, false},
		{[]api.Window{win(7, 0, 1<<63-1)}, 10, 9, 0, false},
	} {
		part, ok := window.Owner(c.table, c.frame, c.t)
		if part != c.part || ok != c.ok {
			t.Errorf("%v %d %d: %d %v, but not %d %v", c.table, c.frame, c.t, part, ok, c.part, c.ok)
		}
		checkTimes(t, c.table, c.frame, c.t)
	}
}

func TestNext(t *testing.T) {
	table, _ := window.Table(module(12, 4, 1, 6, 1), []int{0, 1})
	none := api.Window{}
	for _, c := range []struct {
		table    []api.Window
		frame, t int
		w        api.Window
		at       int
		ok       bool
	}{
		{table, 12, 9, table[0], 12, true},
		{table, 12, 8, table[4], 8, true},
		{table, 12, 0, table[0], 0, true},
		{table, 12, 1, table[1], 1, true},
		{table, 12, 2, table[2], 4, true},
		{table, 12, 11, table[0], 12, true},
		{table, 12, 12, table[0], 12, true},
		{table, 12, 14, table[2], 16, true},
		{table, 12, big30 - 4, table[0], big30 - 4, true},
		{table, 12, big30, table[2], big30, true},
		{table[:2], 12, big30, table[0], big30 + 8, true},
		{table, 12, big30 + 1, none, 0, false},
		{table, 12, -1, none, 0, false},
		{table, 0, 1, none, 0, false},
		{table, -12, 1, none, 0, false},
		{table, 2001, 1, none, 0, false},
		{table, 2000, 9, table[0], 2000, true},
		{table, 4, 2, table[0], 4, true},
		{table, 4, 1, table[1], 1, true},
		{table, 1, 77, table[0], 77, true},
		{mixed, 10, 0, mixed[0], 1, true},
		{mixed, 10, 2, mixed[1], 5, true},
		{mixed, 10, 6, mixed[5], 9, true},
		{mixed, 10, 10, mixed[0], 11, true},
		{mixed, 12, 10, mixed[0], 13, true},
		{mixed, 13, 10, mixed[3], 12, true},
		{mixed[4:5], 10, 0, none, 0, false},
		{mixed[3:4], 10, 0, none, 0, false},
		{nil, 10, 0, none, 0, false},
		{[]api.Window{win(7, 9, 1)}, 10, 9, win(7, 9, 1), 9, true},
		{[]api.Window{win(7, 10, 1)}, 10, 9, none, 0, false},
		{[]api.Window{win(7, 0, 1)}, 10, 1, win(7, 0, 1), 10, true},
		{[]api.Window{win(7, 3, -big30)}, 10, 0, win(7, 3, -big30), 3, true},
		{[]api.Window{win(7, 3, -big30-1)}, 10, 0, none, 0, false},
		{[]api.Window{win(7, 3, big30)}, 10, 0, win(7, 3, big30), 3, true},
		{[]api.Window{win(7, 3, big30+1)}, 10, 0, none, 0, false},
		{[]api.Window{win(7, 3, big30+1), win(8, 4, 1)}, 10, 0, win(8, 4, 1), 4, true},
		{[]api.Window{win(7, 3, 1), win(8, 3, 2)}, 10, 0, win(7, 3, 1), 3, true},
		{[]api.Window{win(7, 4, 1), win(8, 3, 2), win(9, 3, 1)}, 10, 0, win(8, 3, 2), 3, true},
		{[]api.Window{win(1<<62, 3, 1)}, 10, 0, win(1<<62, 3, 1), 3, true},
	} {
		w, at, ok := window.Next(c.table, c.frame, c.t)
		if w != c.w || at != c.at || ok != c.ok {
			t.Errorf("%v %d %d: %v %d %v, but not %v %d %v", c.table, c.frame, c.t, w, at, ok, c.w, c.at, c.ok)
		}
		checkTimes(t, c.table, c.frame, c.t)
	}
}

// TestSmallTimes has all lists of up to two windows with numbers near 0, at all times of three frames and at the last ones.
func TestSmallTimes(t *testing.T) {
	var l []api.Window
	for start := -2; start <= 4; start++ {
		for _, length := range []int{-1, 0, 1, 2, 5} {
			l = append(l, win(0, start, length))
		}
	}
	for n := range 3 {
		for table := range lists(l, n) {
			for i := range table {
				table[i].Part = i + 1
			}
			for frame := range 5 {
				for at := -1; at < 3*frame+1; at++ {
					checkTimes(t, table, frame, at)
				}
				for at := big30 - frame; at <= big30+1; at++ {
					checkTimes(t, table, frame, at)
				}
			}
		}
	}
}

// TestSomeTimes has arbitrary windows in frames up to the limit.
func TestSomeTimes(t *testing.T) {
	r := rand.New(rand.NewSource(1205))
	owned, next := 0, 0
	for range 30000 {
		frame := 1 + r.Intn(1+r.Intn(api.MaxFrames))
		table, at := someWindows(r, frame), r.Intn(big30+1)>>r.Intn(30)
		checkTimes(t, table, frame, at)
		if _, ok := window.Owner(table, frame, at); ok {
			owned++
		}
		if _, _, ok := window.Next(table, frame, at); ok {
			next++
		}
	}
	if owned < 5000 || next < 5000 {
		t.Error(owned, "times have an owner,", next, "a next window")
	}
}

// TestTimeExtremes has a number at a time at its limits and beyond.
func TestTimeExtremes(t *testing.T) {
	for _, x := range extremes {
		for _, y := range extremes {
			for _, table := range [][]api.Window{{win(7, x, y)}, {win(x, y, 5), win(8, 0, 1)}, {win(7, x, 1), win(8, y, 2)}} {
				for _, at := range []int{0, 3, 11, 12, 1999, big30} {
					checkTimes(t, table, 12, at)
					checkTimes(t, table, api.MaxFrames, at)
				}
			}
			checkTimes(t, mixed, x, y)
		}
	}
}
